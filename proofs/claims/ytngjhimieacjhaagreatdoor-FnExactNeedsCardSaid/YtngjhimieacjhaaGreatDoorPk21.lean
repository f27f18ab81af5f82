/-
  Texts that a law leans on, one behind the other; no statement is proved here.
-/
import Derived.Test.YtngjhimieacjhaaGreatDoorPk20
import Derived.Test.YtngjhimieacjhaaGreatDoorPk19
import Derived.Test.YtngjhimieacjhaaGreatDoorPk13
import Derived.Deep.Onto
import Derived.Test.YtngjhimieacjhaaGreatDoorPk14
import Derived.Maps.OwnSet
import Derived.Test.YtngjhimieacjhaaGreatDoorPk2
import Derived.Laws.IdiomStrings
/-
  known of a part at every depth: a method of an interface value, by the value's own type.
-/
namespace Go.Proofs.YtngjhimieacjhaaGreatDoor
open Go.RowKit Go.Shelf
set_option linter.unusedVariables false
set_option linter.unusedSimpArgs false

set_option maxHeartbeats 1600000 in
set_option maxRecDepth 100000 in
theorem known_succ (d : Nat) (ih : PAt 64 (fun d v => .bool (knownV d v)) d) : PAt 64 (fun d v => .bool (knownV d v)) (d + 1) := by
  intro N p v deep w hp hN hg hn
  obtain ⟨pt, px, rfl⟩ := hp.shape
  obtain ⟨f, hm, hcf, hkind⟩ := kind_of hp
  obtain ⟨vk, vn, vs, vK, vL⟩ := v
  simp only at hkind
  have hgd := ((good_succ _ _ _ _ _ _ _).1 hg).2.2
  have hps := parts_succ d vk vn vs vK vL
  have hlen : vL.length ≤ 40 := by have := pre_ge d vL vL.length (Nat.le_refl _); omega
  have HK := hide' (kids_any d N _ _ deep w hp hN hg hlen)
  have HI := hide' ih
  have HG := hide' hgd
  have HKp : Hid (∀ k (hk : k < vL.length), partsV d vL[k] ≤ 40) := fun k hk => (kid_parts hk hn).1
  have HNo : Hid (∀ k (hk : k < vL.length), knownV d vL[k] = false → knownV (d + 1) (vk, vn, vs, vK, vL) = false) := fun k hk h => known_no hk h
  have HYes : Hid (vk ≠ 6 → (∀ k (hk : k < vL.length), knownV d vL[k] = true) → knownV (d + 1) (vk, vn, vs, vK, vL) = true) := fun h1 h2 => known_yes h1 h2
  have HSix : Hid (vk = 6 → knownV (d + 1) (vk, vn, vs, vK, vL) = false) := fun h => by
    subst h
    show (!decide ((6 : Int) = 6) && _) = false
    simp
  have HKd := hide' hkind
  clear ih hgd hps hp hg hn hkind
  go_enter Tryz.func64, Tryz.ntmps64
  go_wp2_with fail
  refine HK.out.mono ?_
  rintro e w1 ⟨u, rfl, hL, b1⟩
  have HLs := hide' hL
  have Hb1 := hide' b1
  obtain ⟨a, cap, rfl, _⟩ := hL
  clear b1 HK
  go_wp2
  go_loopw [4, 8] (fun _ i wr => ∃ k : Nat, k ≤ vL.length ∧ i = .int .i64 k ∧ (∀ j (hj : j < vL.length), j < k → knownV d vL[j] = true) ∧ Below w1.heap.size w1 wr) (fun _ i _ => vL.length - (intOf i).toNat)
  case atStart => exact ⟨0, Nat.zero_le _, rfl, fun j _ h => by omega, Below.refl _ _⟩
  case round =>
    obtain ⟨k, hk, rfl, hall, hbel⟩ := hrel
    have hsz := hbel.size
    by_cases hlt : k < vL.length
    · have hlt' : (k : Int) < (vL.length : Int) := by omega
      obtain ⟨b, off, qt, qx, rfl, hb, hcell, hq⟩ := (HLs.out.grow hbel).at hlt
      have HC : Hid (Calls Tryz.prog 64 #[.iface qt qx] wr fun e w' => e = .returned (.bool (knownV d vL[k])) ∧ Below wr.heap.size wr w') := HI.out w1.heap.size _ vL[k] (deep + 1) wr hq hsz (HG.out k hlt) (HKp.out k hlt)
      have HN : Hid (knownV d vL[k] = false → knownV (d + 1) (vk, vn, vs, vK, vL) = false) := HNo.out k hlt
      have HA : Hid (knownV d vL[k] = true → ∀ j (hj : j < vL.length), j < k + 1 → knownV d vL[j] = true) := fun h j hj hjk => by
        by_cases e : j = k
        · subst e; exact h
        · exact hall j hj (by omega)
      generalize knownV d vL[k] = kb at *
      clear hq hall
      go_wp2_with fail
      refine HC.out.mono ?_
      rintro e w2 ⟨rfl, b2⟩
      have B2 := Below.on hbel b2
      have B2' := hide' (Below.on Hb1.out B2)
      clear hcell HC b2
      cases kb
      · have HF := hide' (HN.out rfl)
        go_wp2
        go_ret
        exact ⟨ret_bool (by rw [HF.out]), B2'.out⟩
      · have HF := hide' (HA.out rfl)
        go_wp2
        go_roundw
        case rel => exact ⟨k + 1, by omega, by go_num, HF.out, B2⟩
        case measure => simp [intOf]; omega
    · have hkn : k = vL.length := by omega
      have hkn' : ¬ (k : Int) < (vL.length : Int) := by omega
      have B := hide' (Below.on Hb1.out hbel)
      have HA : Hid (∀ j (hj : j < vL.length), knownV d vL[j] = true) := fun j hj => hall j hj (by omega)
      have HD := hide' (HKd.out wr)
      clear hkn hall
      by_cases h6 : vk = 6
      · have HF := hide' (HSix.out h6)
        have h6' : (vk != 6) = false := by simp [h6]
        go_wp2_with (go_at_fn f; refine HD.out.mono ?_; rintro e w2 ⟨rfl, b2⟩)
        have B2 := Below.on B.out b2
        go_ret
        exact ⟨ret_bool (by rw [HF.out]), B2⟩
      · have HF := hide' (HYes.out h6 HA.out)
        have h6' : (vk != 6) = true := by simp [h6]
        go_wp2_with (go_at_fn f; refine HD.out.mono ?_; rintro e w2 ⟨rfl, b2⟩)
        have B2 := Below.on B.out b2
        go_ret
        exact ⟨ret_bool (by rw [HF.out]), B2⟩

theorem known_any (d : Nat) : PAt 64 (fun d v => .bool (knownV d v)) d := by
  induction d with
  | zero => intro N p v deep w hv; exact hv.elim
  | succ d ih => exact known_succ d ih
end Go.Proofs.YtngjhimieacjhaaGreatDoor
/-
  heldOf of the program: what may be an entry's is taken in.
-/
namespace Go.Proofs.YtngjhimieacjhaaGreatDoor
open Go.RowKit Go.Shelf
set_option linter.unusedVariables false
set_option linter.unusedSimpArgs false

/-- What was taken in: the map reads as the value, the row holds the addresses; all in new blocks. -/
def HGood (d : Nat) (v : Vl d) (ks : List (List Int)) (w w' : World) (m : Option Nat) (y : Value) : Prop :=
  PSeg (fun q => w.heap.size ≤ q ∧ q < w'.heap.size) w' d (.iface 59 (.agg #[.map m])) v ∧ SR w' w.heap.size y ks

/-- What heldOf leaves: something that was taken in, and whether it may be. -/
def HeldEnd (d : Nat) (v : Vl d) (ks : List (List Int)) (b : Bool) (w : World) (e : Ending) (w' : World) : Prop := ∃ m a n c, e = .returned (.tuple #[.agg #[.map m, .slice a n c, .bool false, .int .i64 0], .bool b]) ∧ Below w.heap.size w w' ∧ (b = true → HGood d v ks w w' m (.slice a n c))

def setH (w : World) (g : Nat) (a b c e : Value) : World := (((w.setCell ⟨g, 0, none⟩ a).setCell ⟨g, 1, none⟩ b).setCell ⟨g, 2, none⟩ c).setCell ⟨g, 3, none⟩ e
theorem setH_grown (w : World) (g : Nat) (a b c e : Value) : w.grownBy (setH w g a b c e) (some g) := grownBy_trans (grownBy_trans (grownBy_trans (grown1 w g 0 a) (grown1 _ g 1 b)) (grown1 _ g 2 c)) (grown1 _ g 3 e)
theorem four_row {w : World} {g : Nat} {T : TypeId} {c0 c1 c2 c3 : Value} (h : w.heap[g]? = some (.cells #[c0, c1, c2, c3] T (0, 0))) :
    w.cell? ⟨g, 0, none⟩ = some c0 ∧ w.cell? ⟨g, 1, none⟩ = some c1 ∧ w.cell? ⟨g, 2, none⟩ = some c2 ∧ w.cell? ⟨g, 3, none⟩ = some c3 := by
  refine ⟨?_, ?_, ?_, ?_⟩ <;> (rw [cell_of_row w g _ _ _ _ h]; rfl)
theorem setH_heap {w : World} {g : Nat} {T : TypeId} {c0 c1 c2 c3 : Value} (a b c e : Value) (h : w.heap[g]? = some (.cells #[c0, c1, c2, c3] T (0, 0))) : (setH w g a b c e).heap[g]? = some (.cells #[a, b, c, e] T (0, 0)) :=
  heap_setCell_same _ g 3 _ _ _ (heap_setCell_same _ g 2 _ _ _ (heap_setCell_same _ g 1 _ _ _ (heap_setCell_same w g 0 _ _ _ h)))

theorem held_end {d : Nat} {v : Vl d} {ks : List (List Int)} {w wx : World} {m : Option Nat} {a : Option Addr} {n c : Nat} {b : Bool} (hr : wx.heap[w.heap.size + 1]? = some (.cells #[.map none, .slice none 0 0, .bool false, .int .i64 0] 62 (0, 0))) (hb : Below w.heap.size w wx) (hgd : b = true → PSeg (fun q => w.heap.size + 2 ≤ q ∧ q < wx.heap.size) wx d (.iface 59 (.agg #[.map m])) v ∧ SR wx (w.heap.size + 2) (.slice a n c) ks) :
    ((wx.cell? ⟨w.heap.size + 1, 0, none⟩ = some (.map none) ∧ wx.cell? ⟨w.heap.size + 1, 1, none⟩ = some (.slice none 0 0) ∧ wx.cell? ⟨w.heap.size + 1, 2, none⟩ = some (.bool false) ∧ wx.cell? ⟨w.heap.size + 1, 3, none⟩ = some (.int .i64 0) ∧
      wx.frozen? ⟨w.heap.size + 1, 0, none⟩ = false ∧ wx.frozen? ⟨w.heap.size + 1, 1, none⟩ = false ∧ wx.frozen? ⟨w.heap.size + 1, 2, none⟩ = false ∧ wx.frozen? ⟨w.heap.size + 1, 3, none⟩ = false) ∧
      (setH wx (w.heap.size + 1) (.map m) (.slice a n c) (.bool false) (.int .i64 0)).cell? ⟨w.heap.size + 1, 0, none⟩ = some (.map m) ∧ (setH wx (w.heap.size + 1) (.map m) (.slice a n c) (.bool false) (.int .i64 0)).cell? ⟨w.heap.size + 1, 1, none⟩ = some (.slice a n c) ∧ (setH wx (w.heap.size + 1) (.map m) (.slice a n c) (.bool false) (.int .i64 0)).cell? ⟨w.heap.size + 1, 2, none⟩ = some (.bool false) ∧ (setH wx (w.heap.size + 1) (.map m) (.slice a n c) (.bool false) (.int .i64 0)).cell? ⟨w.heap.size + 1, 3, none⟩ = some (.int .i64 0)) ∧
    HeldEnd d v ks b w (.returned (.tuple #[.agg #[.map m, .slice a n c, .bool false, .int .i64 0], .bool b])) (setH wx (w.heap.size + 1) (.map m) (.slice a n c) (.bool false) (.int .i64 0)) := by
  obtain ⟨r0, r1, r2, r3⟩ := four_row hr
  have f := fun j => frozen_of_row wx (w.heap.size + 1) j _ _ hr
  obtain ⟨z0, z1, z2, z3⟩ := four_row (setH_heap (.map m) (.slice a n c) (.bool false) (.int .i64 0) hr)
  have hg := setH_grown wx (w.heap.size + 1) (.map m) (.slice a n c) (.bool false) (.int .i64 0)
  refine ⟨⟨⟨r0, r1, r2, r3, f 0, f 1, f 2, f 3⟩, z0, z1, z2, z3⟩, m, a, n, c, rfl, hb.grown hg hb.size (fun k hk => by simp at hk; omega), fun e => ?_⟩
  obtain ⟨g1, g2⟩ := hgd e
  refine ⟨PSeg.carry (fun q hq => ⟨by omega, Nat.lt_of_lt_of_le hq.2 hg.size⟩) (fun q hq => hg.block q hq.2 (by simp; omega)) d g1, World.ownsRow.mono (World.ownsRow.kept g2 hg ?_) (by omega)⟩
  cases hq : (Value.slice a n c).ownBlock with
  | none => exact .inl rfl
  | some q =>
    refine .inr fun e => ?_
    have := (World.ownsRow.lt g2 q hq).1
    simp at e
    omega

/-- What stands while the texts are put behind one another: k of them; the row, the two boxes, what the map reads as. -/
def HLp (d : Nat) (v : Vl d) (ks : List (List Int)) (w : World) (H b k : Nat) (y : Value) (wr : World) : Prop :=
  SR wr (H + 1) y (ks.take k) ∧ wr.heap[H]? = some (.cells #[.map (some b), y, .bool false, .int .i64 0] 62 (0, 0)) ∧ wr.heap[w.heap.size + 1]? = some (.cells #[.map none, .slice none 0 0, .bool false, .int .i64 0] 62 (0, 0)) ∧ Below w.heap.size w wr ∧ w.heap.size + 1 < H ∧ PSeg (fun q => w.heap.size + 2 ≤ q ∧ q < H) wr d (.iface 59 (.agg #[.map (some b)])) v
theorem hLp_next {d : Nat} {v : Vl d} {ks : List (List Int)} {w wz : World} {H b k : Nat} {y0 : Value} {za : Option Addr} {zc : Nat} (hk : k < ks.length) (hS : SR wz (H + 1) (.slice za (k + 1) zc) (ks.take k ++ [ks.getD k []])) (hH : wz.heap[H]? = some (.cells #[.map (some b), y0, .bool false, .int .i64 0] 62 (0, 0))) (hR : wz.heap[w.heap.size + 1]? = some (.cells #[.map none, .slice none 0 0, .bool false, .int .i64 0] 62 (0, 0))) (hb : Below w.heap.size w wz) (hlt : w.heap.size + 1 < H) (hp : PSeg (fun q => w.heap.size + 2 ≤ q ∧ q < H) wz d (.iface 59 (.agg #[.map (some b)])) v) :
    HLp d v ks w H b (k + 1) (.slice za (k + 1) zc) (wz.setCell ⟨H, 1, none⟩ (.slice za (k + 1) zc)) := by
  have hg := grown1 wz H 1 (.slice za (k + 1) zc)
  have e1 : ks.take (k + 1) = ks.take k ++ [ks.getD k []] := by
    rw [List.take_add_one, List.getElem?_eq_getElem hk, List.getD_eq_getElem?_getD, List.getElem?_eq_getElem hk]
    rfl
  have hHz := (Array.getElem?_eq_some_iff.1 hH).1
  refine ⟨?_, heap_setCell_same _ _ 1 _ _ _ hH, (hg.block _ (Array.getElem?_eq_some_iff.1 hR).1 (by simp; omega)).trans hR, hb.grown hg hb.size (fun j hj => by simp at hj; omega), hlt, PSeg.carry (fun q hq => hq) (fun q hq => hg.block q (by omega) (by simp; omega)) d hp⟩
  rw [e1]
  refine World.ownsRow.kept hS hg ?_
  cases hq : (Value.slice za (k + 1) zc).ownBlock with
  | none => exact .inl rfl
  | some q =>
    refine .inr fun e => ?_
    have := (World.ownsRow.lt hS q hq).1
    simp at e
    omega

set_option maxHeartbeats 6400000 in
set_option maxRecDepth 100000 in
theorem heldOf_any (d N : Nat) (c0 c1 c2 c3 c4 x : Value) (v : Vl d) (ks : List (List Int)) (w : World) (hv : VSeg (fun b => b < N) w d (c0, c1, c2, c3, c4) v) (hx : KSeg (fun b => b < N) w x ks) (hN : N ≤ w.heap.size) (hz : ∀ i, i < ks.length → (ks.getD i []).length ≤ 1048576) (hEr : Errs w) :
    Calls Tryz.prog 46 #[.agg #[c0, c1, c2, c3, c4], x] w (HeldEnd d v ks (mapB d v && addrsB ks) w) := by
  have HA2 : Hid (∀ o o' : Obj, Below w.heap.size w ((w.alloc o).alloc o') ∧ ((w.alloc o).alloc o').heap[w.heap.size + 1]? = some o') := fun o o' => ⟨((Below.refl _ _).alloc (Nat.le_refl _) o).alloc (by simp) o', (two_boxes w o o').2⟩
  have HMo : Hid (∀ o o' : Obj, Calls Tryz.prog 63 #[.agg #[c0, c1, c2, c3, c4]] ((w.alloc o).alloc o') (MapOf d v ((w.alloc o).alloc o'))) := fun o o' => mapOf_any d N c0 c1 c2 c3 c4 v _ (VSeg.agree (agree_below ((HA2.out o o').1.mono hN)) d hv) (by simp; omega)
  have HKs : Hid (∀ wx, Below w.heap.size w wx → KSeg (fun b => b < N) wx x ks) := fun wx hb => hx.agree (agree_below (hb.mono hN))
  have HAs : Hid (∀ wx, Below w.heap.size w wx → Calls Tryz.prog 47 #[x] wx fun e w' => e = .returned (.bool (ascA ks)) ∧ Below wx.heap.size wx w') := fun wx hb => ascendingAddrs_any N x ks wx (hx.agree (agree_below (hb.mono hN))) (by have := hb.size; omega) hz (hEr.grow hb)
  obtain ⟨a, cap, rfl, hlc, hcm, _, _⟩ := hx
  unfold maxLen at hcm
  clear hv hz hEr
  show Calls _ _ _ _ fun e w' => HeldEnd d v ks (mapB d v && addrsB ks) w e w'
  generalize hans : (mapB d v && addrsB ks) = ans
  have HAn : Hid (ans = ((decide (kindV d v = 5) && (okB d v && knownV d v)) && (decide (ks.length ≤ 8) && ascA ks))) := hans.symm
  clear hans
  go_enter Tryz.func46, Tryz.ntmps46
  go_wp2_with fail
  refine (HMo.out _ _).mono ?_
  rintro e w1 ⟨b1, ⟨b, rfl, hok, hk5, hp⟩ | ⟨rfl, hno⟩⟩
  rotate_left
  · have HF : Hid (ans = false) := by
      show ans = false
      rw [HAn.out]
      cases hc : (decide (kindV d v = 5) && (okB d v && knownV d v)) with
      | false => rfl
      | true =>
        simp only [Bool.and_eq_true, decide_eq_true_eq] at hc
        exact absurd ⟨hc.2.1, hc.1⟩ hno
    have hAl := (Below.refl w1.heap.size w1).alloc (Nat.le_refl _) (.cells #[.map none] 59)
    have hB := Below.on (Below.on (HA2.out _ _).1 b1) hAl
    have hR := (hAl.block (w.heap.size + 1) (by have := b1.size; simp at this; omega)).trans ((b1.block _ (by simp)).trans (HA2.out _ _).2)
    have HE := hide' (held_end (w := w) (m := none) (a := none) (n := 0) (c := 0) (b := false) (d := d) (v := v) (ks := ks) hR hB (by simp))
    obtain ⟨⟨s0, s1, s2, s3, sf0, sf1, sf2, sf3⟩, z0, z1, z2, z3⟩ := HE.out.1
    simp only [setH] at z0 z1 z2 z3
    clear hAl hB hR b1 HMo HAs HKs
    go_wp2
    refine bodyPost_ret (v := .tuple #[.agg #[.map none, .slice none 0 0, .bool false, .int .i64 0], .bool false]) (by simp [results, Tryz.results46, go_sem, z0, z1, z2, z3]) rfl ?_
    rw [HF.out]
    exact HE.out.2
  have hAl := (Below.refl w1.heap.size w1).alloc (Nat.le_refl _) (.cells #[.map (some b)] 59)
  have HP0 : Hid (PSeg (fun q => w.heap.size + 2 ≤ q ∧ q < w1.heap.size) (w1.alloc (.cells #[.map (some b)] 59)) d (.iface 59 (.agg #[.map (some b)])) v) := PSeg.carry (fun q hq => ⟨by have := hq.1; simp at this; omega, hq.2⟩) (fun q hq => hAl.block q hq.2) d hp
  have HB1 := hide' (Below.on (Below.on (HA2.out _ _).1 b1) hAl)
  have hz1 : w.heap.size + 2 ≤ w1.heap.size := by have := b1.size; simpa using this
  have HR1 := hide' ((hAl.block (w.heap.size + 1) (by omega)).trans ((b1.block _ (by simp)).trans (HA2.out _ _).2))
  have HM1 := hide' (MapKept.heap_alloc w1 (.cells #[.map (some b)] 59)).1
  have hgd : goodB d v 1 = true ∧ partsV d v ≤ 40 := by unfold okB at hok; rw [Bool.and_eq_true, decide_eq_true_eq] at hok; exact hok
  have HKn : Hid (Calls Tryz.prog 64 #[.iface 59 (.agg #[.map (some b)])] (w1.alloc (.cells #[.map (some b)] 59)) fun e w' => e = .returned (.bool (knownV d v)) ∧ Below (w1.alloc (.cells #[.map (some b)] 59)).heap.size (w1.alloc (.cells #[.map (some b)] 59)) w') := (known_any d (w1.alloc (.cells #[.map (some b)] 59)).heap.size (.iface 59 (.agg #[.map (some b)])) v 1 (w1.alloc (.cells #[.map (some b)] 59)) (PSeg.carry (fun b' hb' => by have := hb'.2; simp; omega) (fun b' hb' => hAl.block b' hb'.2) d hp) (Nat.le_refl _) hgd.1 hgd.2)
  have HAn2 : Hid (ans = (knownV d v && (decide (ks.length ≤ 8) && ascA ks))) := by show ans = _; rw [HAn.out, decide_eq_true hk5, hok]; rfl
  generalize knownV d v = kn at *
  clear hp hok hk5 hgd hAl b1 HMo HAn HA2
  go_wp2_with fail
  refine HKn.out.mono ?_
  rintro e w2 ⟨rfl, b2⟩
  have HB2 := hide' (Below.on HB1.out b2)
  have HR2 := hide' ((b2.block (w.heap.size + 1) (Array.getElem?_eq_some_iff.1 HR1.out).1).trans HR1.out)
  have HM2 := hide' ((b2.block w1.heap.size (Array.getElem?_eq_some_iff.1 HM1.out).1).trans HM1.out)
  have HP2 : Hid (PSeg (fun q => w.heap.size + 2 ≤ q ∧ q < w1.heap.size) w2 d (.iface 59 (.agg #[.map (some b)])) v) := PSeg.carry (fun q hq => hq) (fun q hq => b2.block q (by simp; omega)) d HP0.out
  have hmb2 : w1.heap.size < w2.heap.size := by have := b2.size; simp at this; omega
  clear HP0
  generalize w1.heap.size = mb at *
  clear b2 HKn HB1 HR1 HM1 hz1
  cases kn with
  | false =>
    have HF : Hid (ans = false) := HAn2.out
    have HE := hide' (held_end (w := w) (m := none) (a := none) (n := 0) (c := 0) (b := false) (d := d) (v := v) (ks := ks) HR2.out HB2.out (by simp))
    obtain ⟨⟨s0, s1, s2, s3, sf0, sf1, sf2, sf3⟩, z0, z1, z2, z3⟩ := HE.out.1
    simp only [setH] at z0 z1 z2 z3
    clear HR2 HB2
    go_wp2
    refine bodyPost_ret (v := .tuple #[.agg #[.map none, .slice none 0 0, .bool false, .int .i64 0], .bool false]) (by simp [results, Tryz.results46, go_sem, z0, z1, z2, z3]) rfl ?_
    rw [HF.out]
    exact HE.out.2
  | true =>
  by_cases h8 : 8 < ks.length
  · have h8' : (8 : Int) < (ks.length : Int) := by omega
    have HF : Hid (ans = false) := by show ans = false; rw [HAn2.out, decide_eq_false (p := ks.length ≤ 8) (by omega)]; rfl
    have HE := hide' (held_end (w := w) (m := none) (a := none) (n := 0) (c := 0) (b := false) (d := d) (v := v) (ks := ks) HR2.out HB2.out (by simp))
    obtain ⟨⟨s0, s1, s2, s3, sf0, sf1, sf2, sf3⟩, z0, z1, z2, z3⟩ := HE.out.1
    simp only [setH] at z0 z1 z2 z3
    clear HR2 HB2
    go_wp2
    refine bodyPost_ret (v := .tuple #[.agg #[.map none, .slice none 0 0, .bool false, .int .i64 0], .bool false]) (by simp [results, Tryz.results46, go_sem, z0, z1, z2, z3]) rfl ?_
    rw [HF.out]
    exact HE.out.2
  have h8' : ¬ (8 : Int) < (ks.length : Int) := by omega
  have HAs2 := hide' (HAs.out w2 HB2.out)
  have HAn3 : Hid (ans = ascA ks) := by show ans = _; rw [HAn2.out, decide_eq_true (p := ks.length ≤ 8) (by omega)]; rfl
  generalize ascA ks = asc at *
  clear HAs HAn2
  go_wp2_with fail
  refine HAs2.out.mono ?_
  rintro e w3 ⟨rfl, b3⟩
  have HB3 := hide' (Below.on HB2.out b3)
  have HR3 := hide' ((b3.block (w.heap.size + 1) (Array.getElem?_eq_some_iff.1 HR2.out).1).trans HR2.out)
  have HM3 := hide' ((b3.block mb (Array.getElem?_eq_some_iff.1 HM2.out).1).trans HM2.out)
  have HP3 : Hid (PSeg (fun q => w.heap.size + 2 ≤ q ∧ q < mb) w3 d (.iface 59 (.agg #[.map (some b)])) v) := PSeg.carry (fun q hq => hq) (fun q hq => b3.block q (by omega)) d HP2.out
  have hmb3 : mb < w3.heap.size := Nat.lt_of_lt_of_le hmb2 b3.size
  clear b3 HAs2 HB2 HR2 HM2 HP2 hmb2
  cases asc with
  | false =>
    have HF : Hid (ans = false) := HAn3.out
    have HE := hide' (held_end (w := w) (m := none) (a := none) (n := 0) (c := 0) (b := false) (d := d) (v := v) (ks := ks) HR3.out HB3.out (by simp))
    obtain ⟨⟨s0, s1, s2, s3, sf0, sf1, sf2, sf3⟩, z0, z1, z2, z3⟩ := HE.out.1
    simp only [setH] at z0 z1 z2 z3
    clear HR3 HB3
    go_wp2
    refine bodyPost_ret (v := .tuple #[.agg #[.map none, .slice none 0 0, .bool false, .int .i64 0], .bool false]) (by simp [results, Tryz.results46, go_sem, z0, z1, z2, z3]) rfl ?_
    rw [HF.out]
    exact HE.out.2
  | true =>
    have HF : Hid (ans = true) := HAn3.out
    have hmc : w3.cell? ⟨mb, 0, none⟩ = some (.map (some b)) := by rw [cell_of_row _ _ 0 _ _ _ HM3.out]; rfl
    have hz3 : w.heap.size + 1 < w3.heap.size := (Array.getElem?_eq_some_iff.1 HR3.out).1
    have H0 : Hid (HLp d v ks w w3.heap.size b 0 (.slice none 0 0) (w3.alloc (.cells #[.map (some b), .slice none 0 0, .bool false, .int .i64 0] 62))) := by
      refine ⟨⟨by simp [strC], .inl ⟨rfl, by simp⟩⟩, (MapKept.heap_alloc w3 _).1, ?_, HB3.out.alloc HB3.out.size _, hz3, PSeg.carry (fun q hq => ⟨hq.1, by omega⟩) (fun q hq => Below.heap_alloc w3 _ _ (by omega)) d HP3.out⟩
      exact (Below.heap_alloc w3 _ _ hz3).trans HR3.out
    clear HAn3 HM3 HP3 hmb3
    go_wp2_with fail
    go_loopw [39, 10] (fun i _ wr => ∃ (k : Nat) (y : Value), i = .int .i64 k ∧ k ≤ ks.length ∧ Hid (HLp d v ks w w3.heap.size b k y wr)) (fun i _ _ => ks.length - (intOf i).toNat)
    case atStart => exact ⟨0, _, rfl, Nat.zero_le _, H0⟩
    case round =>
      clear H0 hmc HR3 HB3
      obtain ⟨k, y, rfl, hk, hS⟩ := hrel
      obtain ⟨hSR, hH, hR, hbr, _, hPr⟩ := hS.out
      have HPr := hide' hPr
      clear hPr
      obtain ⟨ya, yc, hy⟩ := hSR.shape
      have hos : (ks.take k).length = k := by simp; omega
      rw [hos] at hy
      subst hy
      have HOs := hide' hos
      clear hos
      obtain ⟨g0, g1, g2, g3⟩ := four_row hH
      by_cases hlt : k < ks.length
      rotate_left
      · have hlt' : ¬ (k : Int) < (ks.length : Int) := by omega
        have HE := hide' (held_end (w := w) (m := some b) (a := ya) (n := k) (c := yc) (b := true) (d := d) (v := v) (ks := ks) hR hbr (fun _ => ⟨PSeg.carry (fun q hq => ⟨hq.1, by have := (Array.getElem?_eq_some_iff.1 hH).1; omega⟩) (fun q hq => rfl) d HPr.out, by
          have e1 : ks.take k = ks := List.take_of_length_le (by omega)
          rw [e1] at hSR
          exact World.ownsRow.mono hSR (by omega)⟩))
        obtain ⟨⟨s0, s1, s2, s3, sf0, sf1, sf2, sf3⟩, z0, z1, z2, z3⟩ := HE.out.1
        simp only [setH] at z0 z1 z2 z3
        clear hS hSR hH hR hbr
        go_wp2
        refine bodyPost_ret (v := .tuple #[.agg #[.map (some b), .slice ya k yc, .bool false, .int .i64 0], .bool true]) (by simp [results, Tryz.results46, go_sem, z0, z1, z2, z3]) rfl ?_
        rw [HF.out]
        exact HE.out.2
      have hlt' : (k : Int) < (ks.length : Int) := by omega
      obtain ⟨kb, off, rfl, hat⟩ := (HKs.out wr hbr).full hlt
      obtain ⟨a2, c2, hu, s2, l2, m2, k2⟩ := hat k hlt
      have hcv : (convert 22 9 (.slice a2 (ks.getD k []).length c2)).run Tryz.prog wr = .ok (.string (strOf (ks.getD k []))) wr := conv_seg c2 s2
      have HSR := hide' hSR
      have HH := hide' hH
      have HR := hide' hR
      have HBr := hide' hbr
      have hgf := frozen_of_row _ _ 1 _ _ hH
      have hHz := (Array.getElem?_eq_some_iff.1 hH).1
      clear hat hSR hH hR hbr hS s2
      have HNx : Hid (∀ (wz : World) (y0 : Value) (za : Option Addr) (zc : Nat), SR wz (w3.heap.size + 1) (.slice za (k + 1) zc) (ks.take k ++ [ks.getD k []]) → wz.heap[w3.heap.size]? = some (.cells #[.map (some b), y0, .bool false, .int .i64 0] 62 (0, 0)) → wz.heap[w.heap.size + 1]? = some (.cells #[.map none, .slice none 0 0, .bool false, .int .i64 0] 62 (0, 0)) → Below w.heap.size w wz → PSeg (fun q => w.heap.size + 2 ≤ q ∧ q < w3.heap.size) wz d (.iface 59 (.agg #[.map (some b)])) v → HLp d v ks w w3.heap.size b (k + 1) (.slice za (k + 1) zc) (wz.setCell ⟨w3.heap.size, 1, none⟩ (.slice za (k + 1) zc))) := fun wz y0 za zc h1 h2 h3 h4 h5 => hLp_next hlt h1 h2 h3 h4 hz3 h5
      generalize ks.getD k [] = xs at *
      go_wp2_with (at_builtin; refine wpList_SR_add rfl (.tmp 44) (.tmp 47) (by rfl) (w3.heap.size + 1) (.slice ya k yc) (ks.take k) xs (by rfl) HSR.out wr.heap.size rfl (by rfl) k HOs.out (by omega) (by omega) ?_; intro za zc wz hSz hgz hloc; have hne : some w3.heap.size ≠ (Value.slice ya k yc).ownBlock := (fun e => by have := (World.ownsRow.lt HSR.out w3.heap.size e.symm).1; omega); have hHz2 := (hgz.block w3.heap.size hHz hne).trans HH.out; have hRz := (hgz.block (w.heap.size + 1) (by omega) (fun e => by have := (World.ownsRow.lt HSR.out (w.heap.size + 1) e.symm).1; omega)).trans HR.out; have hBz := HBr.out.grown hgz HBr.out.size (fun j hj => by have := (World.ownsRow.lt HSR.out j hj).1; omega); obtain ⟨y0, y1, y2, y3⟩ := four_row hHz2; have yf1 := frozen_of_row _ _ 1 _ _ hHz2; have HN := hide' (HNx.out _ _ _ _ hSz hHz2 hRz hBz (PSeg.carry (fun q hq => hq) (fun q hq => hgz.block q (by omega) (fun e => by have := (World.ownsRow.lt HSR.out q e.symm).1; omega)) d HPr.out)); clear hSz hgz hloc hHz2 hRz hBz)
      go_wp2
      go_roundw
      case rel => exact ⟨k + 1, _, by go_num, by omega, HN⟩
      case measure => simp [intOf]; omega
end Go.Proofs.YtngjhimieacjhaaGreatDoor
/-
  What stands under a key in the datum of a map of parts whose keys ascend; no statement is proved here.
-/
namespace Go.Proofs.YtngjhimieacjhaaGreatDoor
open Go.RowKit
set_option linter.unusedVariables false
set_option linter.unusedSimpArgs false

theorem same_u8s {xs ys : List Int} (hx : ∀ x ∈ xs, Byt x) (hy : ∀ y ∈ ys, Byt y) : (Lit.string (u8s xs)).sameKey (.string (u8s ys)) = decide (xs = ys) := by
  have h := strOf_eq hx hy
  rw [strOf_list, strOf_list] at h
  rw [← h]
  simp [Lit.sameKey]

/-- Where the key is none of the map's. -/
theorem look_no {vK : List (List Int)} {ps : List Value} {n : Nat} {key : List Int} (hy : ∀ y ∈ key, Byt y) (hb : ∀ i, i < n → ∀ x ∈ vK.getD i [], Byt x) (hn : ∀ i, i < n → vK.getD i [] ≠ key) (zd : DataW Value) :
    Maps.has (.map (entF vK ps n)) (.string (u8s key)) = false ∧ (DataW.map (entF vK ps n)).atKey (.string (u8s key)) zd = zd := by
  have hnone : ∀ p ∈ entF vK ps n, p.1.sameKey (.string (u8s key)) = false := by
    intro p hp
    simp only [entF, List.mem_map, List.mem_range] at hp
    obtain ⟨i, hi, rfl⟩ := hp
    rw [same_u8s (hb i hi) hy]
    simpa using hn i hi
  refine ⟨?_, ?_⟩
  · simp only [Maps.has, List.any_eq_false]
    intro p hp
    simp [hnone p hp]
  · have : (entF vK ps n).find? (fun p => p.1.sameKey (.string (u8s key))) = none := by
      rw [List.find?_eq_none]
      intro p hp
      simp [hnone p hp]
    simp [DataW.atKey, this]

/-- Where it is the k-th, and none before it. -/
theorem look_yes {vK : List (List Int)} {ps : List Value} {n k : Nat} {key : List Int} (hy : ∀ y ∈ key, Byt y) (hb : ∀ i, i < n → ∀ x ∈ vK.getD i [], Byt x) (hk : k < n) (hn : ∀ i, i < k → vK.getD i [] ≠ key) (he : vK.getD k [] = key) (zd : DataW Value) :
    Maps.has (.map (entF vK ps n)) (.string (u8s key)) = true ∧ (DataW.map (entF vK ps n)).atKey (.string (u8s key)) zd = .held (ps.getD k .nilIface) := by
  have hfind : (entF vK ps n).find? (fun p => p.1.sameKey (.string (u8s key))) = some (.string (u8s (vK.getD k [])), .held (ps.getD k .nilIface)) := by
    rw [List.find?_eq_some_iff_getElem]
    refine ⟨?_, k, by simpa [entF] using hk, by simp [entF], fun j hj => ?_⟩
    · simp only
      rw [same_u8s (hb k hk) hy]
      simpa using he
    · have hj' : j < n := by omega
      simp only [entF, List.getElem_map, List.getElem_range]
      rw [same_u8s (hb j hj') hy]
      simpa using hn j hj
  refine ⟨?_, by simp [DataW.atKey, hfind]⟩
  simp only [Maps.has, List.any_eq_true]
  exact ⟨_, List.mem_of_find?_eq_some hfind, by have := List.find?_some hfind; simpa using this⟩
end Go.Proofs.YtngjhimieacjhaaGreatDoor
/-
  '[]byte(s)': a text of the call's own.
-/
namespace Go.Proofs.YtngjhimieacjhaaGreatDoor
open Go.RowKit
set_option linter.unusedVariables false
set_option linter.unusedSimpArgs false

/-- '[]byte(s)': a text of the call's own. -/
theorem conv_back (xs : List Int) (hx : ∀ x ∈ xs, Byt x) (hl : xs.length ≤ 1048576) (w : World) : ∃ cap wB, (convert 9 22 (.string (strOf xs))).run Tryz.prog w = .ok (.slice (some ⟨w.heap.size, 0, none⟩) xs.length cap) wB ∧
    TOwn wB (.slice (some ⟨w.heap.size, 0, none⟩) xs.length cap) xs [w.heap.size] ∧ Below w.heap.size w wB ∧ wB.heap.size = w.heap.size + 1 := by
  have hsz := size_strOf xs
  have hsc := strCells_of hx
  have hrun := run_bytes_of_string (P := Tryz.prog) w 9 22 5 (strOf xs) Tryz.underlying9 Tryz.underlying22 Tryz.underlying5
  rw [hsz] at hrun
  have hge := grownCap_ge w xs.length 0 5
  have hle := grownCap_le_maxLen w xs.length 0 5 (by unfold maxLen; omega)
  generalize grownCap w xs.length 0 5 = cap at hrun hge hle
  have hrs : (bytesRow (strOf xs) cap).size = cap := by
    have h1 : (strOf xs).data.size = xs.length := hsz
    simp [bytesRow, h1, hsz]
    omega
  have hrt : (bytesRow (strOf xs) cap).toList.take xs.length = cellsOf xs := by
    rw [← hsc]
    unfold bytesRow Lib.strCells
    rw [Array.toList_append, Array.toList_map, List.take_append_of_le_length (by simp; exact Nat.le_of_eq hsz.symm)]
    rw [List.take_of_length_le (by simp; exact Nat.le_of_eq hsz)]
  rw [hrs] at hrun
  refine ⟨cap, _, hrun, ⟨⟨hx, by simp [cellsOf], .inr ⟨w.heap.size, cap, _, _, rfl, heap_alloc_new w.drew _, .inr (Nat.le_refl _), hge, hle, hrs, hrt⟩⟩, .inr ⟨_, _, rfl, rfl⟩⟩, ((Below.refl _ w).drew).alloc (Nat.le_refl _) _, by simp⟩
end Go.Proofs.YtngjhimieacjhaaGreatDoor
