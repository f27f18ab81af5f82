/-
  Texts that a law leans on, one behind the other; no statement is proved here.
-/
import Derived.Test.YthkbapkndmlpfaaDoorPk3
import Derived.Deep.MidRow
import Derived.Test.YthkbapkndmlpfaaDoorPk4
/-
  A function that copies a struct: the argument's box, the answer's, the variable's; and rows of cells by ranges.
-/
namespace Go.Proofs.YthkbapkndmlpfaaDoor
open Go.RowKit
set_option linter.unusedVariables false
set_option linter.unusedSimpArgs false

theorem range_of_row {w : World} {g : Nat} {cs : List Value} {T : TypeId} {fr : Nat × Nat} (h : w.heap[g]? = some (.cells cs.toArray T fr)) : w.rangeAt g 0 cs := fun j v hv => by
  rw [Nat.zero_add, cell_of_row w g j _ _ _ h]
  simpa using hv
theorem there_of_row {w : World} {g : Nat} {cs : Array Value} {T : TypeId} (h : w.heap[g]? = some (.cells cs T (0, 0))) : w.there g 0 cs.size := fun j hj => by
  rw [Nat.zero_add, cell_of_row w g j _ _ _ h]
  exact ⟨by simp [hj], frozen_of_row _ _ _ _ _ h⟩
theorem results_cell {P : Program} {fn : Func} {tmps : Array Value} {w : World} {v : Value} {ad : Addr} (s : Nat) (t : TypeId) (hr : fn.results = #[.cell s t]) (hp : tmps.getD s undef = .pointer (some ad)) (hl : (loadVar t ad).run P w = .ok v w) : (results fn tmps).run P w = .ok v w := by
  unfold results
  rw [hr]
  simp only [Array.mapM_eq_mapM_toList, List.mapM_cons, List.mapM_nil, Sem.run_bind, Sem.run_pure, Result.andThen_ok, hp]
  simp [asAddr, hl]
theorem grown_setCells (g : Nat) : ∀ (vs : List Value) (o : Nat) (w : World), w.grownBy (w.setCells g o vs) (some g)
  | [], _, w => World.grownBy.refl w _
  | v :: r, o, w => grownBy_trans (grown1 w g o v) (grown_setCells g r (o + 1) (w.setCell ⟨g, o, none⟩ v))

/-- The three boxes. -/
def BxSt (w : World) (T1 T2 : TypeId) (arg zer cur : Array Value) (wx : World) : Prop :=
  Below w.heap.size w wx ∧ wx.heap[w.heap.size]? = some (.cells arg T1 (0, 0)) ∧ wx.heap[w.heap.size + 1]? = some (.cells zer T2 (0, 0)) ∧ wx.heap[w.heap.size + 1 + 1]? = some (.cells cur T2 (0, 0)) ∧ w.heap.size + 3 ≤ wx.heap.size

theorem bx_start (w : World) (T1 T2 : TypeId) (arg zer cur : Array Value) : BxSt w T1 T2 arg zer cur (((w.alloc (.cells arg T1)).alloc (.cells zer T2)).alloc (.cells cur T2)) := by
  refine ⟨(((Below.refl _ _).alloc (Nat.le_refl _) _).alloc (by simp) _).alloc (by simp; omega) _, ?_, ?_, ?_, by simp⟩
  · rw [Below.heap_alloc _ _ _ (by simp; omega), Below.heap_alloc _ _ _ (by simp)]
    exact (MapKept.heap_alloc w _).1
  · rw [Below.heap_alloc _ _ _ (by simp)]
    have := (MapKept.heap_alloc (w.alloc (.cells arg T1)) (.cells zer T2)).1
    simpa using this
  · have := (MapKept.heap_alloc ((w.alloc (.cells arg T1)).alloc (.cells zer T2)) (.cells cur T2)).1
    simpa using this
theorem bx_below {w wx w1 : World} {T1 T2 : TypeId} {arg zer cur : Array Value} (h : BxSt w T1 T2 arg zer cur wx) (b : Below wx.heap.size wx w1) : BxSt w T1 T2 arg zer cur w1 := by
  obtain ⟨h1, h2, h3, h4, h5⟩ := h
  have hz := b.size
  exact ⟨Below.on h1 b, (b.block _ (by omega)).trans h2, (b.block _ (by omega)).trans h3, (b.block _ (by omega)).trans h4, by omega⟩
theorem bx_turn {w w1 w2 : World} {T1 T2 : TypeId} {arg zer cur cur' : Array Value} (h : BxSt w T1 T2 arg zer cur w1) (hg : w1.grownBy w2 (some (w.heap.size + 1 + 1))) (hr : w2.heap[w.heap.size + 1 + 1]? = some (.cells cur' T2 (0, 0))) : BxSt w T1 T2 arg zer cur' w2 := by
  obtain ⟨h1, h2, h3, h4, h5⟩ := h
  refine ⟨h1.grown hg (by omega) (by intro k hk; simp at hk; omega), (hg.block _ (by omega) (by simp; omega)).trans h2, (hg.block _ (by omega) (by simp)).trans h3, hr, by have := hg.size; omega⟩
theorem bx_set {w w1 : World} {T1 T2 : TypeId} {arg zer cur cur' : Array Value} (h : BxSt w T1 T2 arg zer cur w1) (j : Nat) (v : Value) (hc : cur.setIfInBounds j v = cur') : BxSt w T1 T2 arg zer cur' (w1.setCell ⟨w.heap.size + 1 + 1, j, none⟩ v) := by
  subst hc
  exact bx_turn h (grown1 _ _ _ _) (heap_setCell_same _ _ _ _ _ _ h.2.2.2.1)
theorem bx_set5 {w w1 : World} {T1 T2 : TypeId} {arg zer cur cur' : Array Value} (h : BxSt w T1 T2 arg zer cur w1) (j : Nat) (c0 c1 c2 c3 c4 : Value) (hc : ((((cur.setIfInBounds j c0).setIfInBounds (j + 1) c1).setIfInBounds (j + 2) c2).setIfInBounds (j + 3) c3).setIfInBounds (j + 4) c4 = cur') : BxSt w T1 T2 arg zer cur' (set5 w1 (w.heap.size + 1 + 1) j c0 c1 c2 c3 c4) := by
  subst hc
  exact bx_turn h (set5_grown _ _ _ _ _ _ _ _) (set5_heap _ _ _ _ _ h.2.2.2.1)

/-- Behind the boxes. -/
def Beh (w wx : World) (b : Nat) : Prop := w.heap.size + 3 ≤ b ∧ b < wx.heap.size
theorem beh_below {w wx w1 : World} (b : Below wx.heap.size wx w1) : Agree (Beh w wx) wx w1 := fun k hk => b.block k hk.2
theorem beh_turn {w wx w1 : World} (hg : wx.grownBy w1 (some (w.heap.size + 1 + 1))) : Agree (Beh w wx) wx w1 := fun k hk => hg.block k hk.2 (by have := hk.1; simp; omega)
theorem beh_mono {w wx w1 : World} (h : wx.heap.size ≤ w1.heap.size) : ∀ b, Beh w wx b → Beh w w1 b := fun b hb => ⟨hb.1, Nat.lt_of_lt_of_le hb.2 h⟩
end Go.Proofs.YthkbapkndmlpfaaDoor
/-
  namedAlike of the program: does one of a list have the kind and the name of an item?
-/
namespace Go.Proofs.YthkbapkndmlpfaaDoor
open Go.RowKit
set_option linter.unusedVariables false
set_option linter.unusedSimpArgs false

/-- One kind and one name. -/
def alkB (d : Nat) (y x : Itm d) : Bool := decide (y.1 = x.1) && ((strOf y.2.1).toList == (strOf x.2.1).toList)

theorem equal_str (a b : Option Addr) (c1 c2 : Nat) (xs ys : List Int) (w : World) (ha : Seg w a xs) (hb : Seg w b ys) :
    Calls Tryd.prog 50 #[.slice a xs.length c1, .slice b ys.length c2] w fun e w' => e = .returned (.bool ((strOf xs).toList == (strOf ys).toList)) ∧ w = w' := by
  have h1 := conv_seg c1 ha
  have h2 := conv_seg c2 hb
  generalize strOf xs = sx at *
  generalize strOf ys = sy at *
  clear ha hb
  go_enter Tryd.func50, Tryd.ntmps50
  go_wp2
  go_ret
  exact ⟨by simp, rfl⟩

set_option maxHeartbeats 1600000 in
set_option maxRecDepth 100000 in
theorem alike_fn (d N Bx : Nat) (cs cx : List Value) (y x : Itm d) (w : World) (h : ISeg (fun b => b < N) w d cs y) (hx : ISeg (fun b => b < N) w d cx x) (hN : N ≤ w.heap.size) (hb : w.heap[Bx]? = some (.cells cx.toArray 42 (0, 0))) :
    Calls Tryd.prog 49 #[.agg cs.toArray, .pointer (some ⟨Bx, 0, none⟩)] w fun e w' => e = .returned (.bool (alkB d y x)) ∧ Below w.heap.size w w' := by
  obtain ⟨na, np, bk, bn, a2, l2, p2, a3, l3, p3, a4, l4, p4, xa, xp, ea, ep, rfl, ht, _⟩ := h.form
  obtain ⟨na', np', bk', bn', a2', l2', p2', a3', l3', p3', a4', l4', p4', xa', xp', ea', ep', rfl, ht', _⟩ := hx.form
  obtain ⟨yk, ynm, ymn, yby, yks, yes⟩ := y
  obtain ⟨xk, xnm, xmn, xby, xks, xes⟩ := x
  simp only [alkB] at ht ht' hb ⊢
  have Hb : Hid (∀ o : Obj, Below w.heap.size w (w.alloc o)) := fun o => (Below.refl _ _).alloc (Nat.le_refl _) o
  have hlt := (Array.getElem?_eq_some_iff.1 hb).1
  have HE : Hid (∀ o : Obj, Calls Tryd.prog 50 #[.slice na ynm.length np, .slice na' xnm.length np'] (w.alloc o) fun e w' => e = .returned (.bool ((strOf ynm).toList == (strOf xnm).toList)) ∧ w.alloc o = w') := fun o => by
    obtain ⟨_, _, e1, s1, _⟩ := ht.agree (w' := w.alloc o) (agree_below ((Hb.out o).mono hN))
    obtain ⟨_, _, e2, s2, _⟩ := ht'.agree (w' := w.alloc o) (agree_below ((Hb.out o).mono hN))
    simp at e1 e2
    obtain ⟨rfl, _⟩ := e1
    obtain ⟨rfl, _⟩ := e2
    exact equal_str _ _ _ _ ynm xnm (w.alloc o) s1 s2
  have u0 := cell_of_row _ _ 0 _ _ _ hb
  have u1 := cell_of_row _ _ 1 _ _ _ hb
  simp at u0 u1
  have hne : ¬ w.heap.size = Bx := by omega
  have hne' : ¬ Bx = w.heap.size := by omega
  clear ht ht' h hx hb
  generalize ((strOf ynm).toList == (strOf xnm).toList) = eb at *
  generalize ynm.length = n1 at *
  generalize xnm.length = n2 at *
  by_cases hk : yk = xk
  · subst hk
    have v0 : ∀ o : Obj, (w.alloc o).cell? ⟨Bx, 0, none⟩ = some (.int .i64 yk) := fun o => (World.cell?_of_block (Below.heap_alloc w o Bx hlt)).trans u0
    have v1 : ∀ o : Obj, (w.alloc o).cell? ⟨Bx, 1, none⟩ = some (.slice na' n2 np') := fun o => (World.cell?_of_block (Below.heap_alloc w o Bx hlt)).trans u1
    go_enter Tryd.func49, Tryd.ntmps49
    go_wp2_with fail
    refine (HE.out _).mono ?_
    rintro e w1 ⟨rfl, e1⟩
    obtain rfl := e1
    go_wp2
    go_ret
    exact ⟨ret_bool (by simp), Hb.out _⟩
  · have hkb : (yk == xk) = false := by simpa using hk
    have v0 : ∀ o : Obj, (w.alloc o).cell? ⟨Bx, 0, none⟩ = some (.int .i64 xk) := fun o => (World.cell?_of_block (Below.heap_alloc w o Bx hlt)).trans u0
    go_enter Tryd.func49, Tryd.ntmps49
    go_wp2
    go_ret
    exact ⟨ret_bool (by simp [hk]), Hb.out _⟩

/-- Where the first alike is told. -/
def IxEnd (d : Nat) (l : List (Itm d)) (x : Itm d) (w : World) (e : Ending) (w' : World) : Prop := (∃ r : Int, e = .returned (.int .i64 r) ∧ -1 ≤ r ∧ r ≤ 9223372036854775807 ∧ (decide (0 ≤ r) = l.any fun y => alkB d y x)) ∧ Below w.heap.size w w'

set_option maxHeartbeats 1600000 in
set_option maxRecDepth 100000 in
theorem indexFunc_any (d N Bx : Nat) (cx : List Value) (a : Option Addr) (cap : Nat) (l : List (Itm d)) (x : Itm d) (w : World) (hl : ILSeg (fun b => b < N) w d (.slice a l.length cap) l) (hx : ISeg (fun b => b < N) w d cx x) (hN : N ≤ w.heap.size) (hb : w.heap[Bx]? = some (.cells cx.toArray 42 (0, 0))) (hn : l.length ≤ 1048576) :
    Calls Tryd.prog 62 #[.slice a l.length cap, .func (.func 49) #[] #[.pointer (some ⟨Bx, 0, none⟩)]] w (IxEnd d l x w) := by
  have HL := hide' hl
  have HX := hide' hx
  have HB := hide' hb
  have hltB := (Array.getElem?_eq_some_iff.1 hb).1
  clear hl hx hb
  go_enter Tryd.func62, Tryd.ntmps62
  go_wp2
  go_loopw [8] (fun i wr => ∃ k : Nat, k ≤ l.length ∧ i = .int .i64 k ∧ Below w.heap.size w wr ∧ Hid (∀ j (h : j < l.length), j < k → alkB d l[j] x = false)) (fun i _ => l.length - (intOf i).toNat)
  case atStart => exact ⟨0, Nat.zero_le _, rfl, Below.refl _ _, fun j h h' => by omega⟩
  case round =>
    obtain ⟨k, hk, rfl, hbel, hall⟩ := hrel
    have hz := hbel.size
    by_cases hlt : k < l.length
    · have hlt' : (k : Int) < (l.length : Int) := by omega
      have hag := agree_below (hbel.mono hN)
      obtain ⟨b, off, cs, rfl, hbN, hr, hs⟩ := (HL.out.agree hag).at hlt
      have HC := hide' (alike_fn d N Bx cs cx l[k] x wr hs (HX.out.agree hag) (by omega) ((hbel.block Bx hltB).trans HB.out))
      have hlen := hs.len
      have HY : Hid (alkB d l[k] x = true → (l.any fun y => alkB d y x) = true) := fun h => List.any_eq_true.2 ⟨l[k], List.getElem_mem hlt, h⟩
      have HA : Hid (alkB d l[k] x = false → ∀ j (h : j < l.length), j < k + 1 → alkB d l[j] x = false) := fun h0 j h h' => by
        by_cases e : j = k
        · subst e; exact h0
        · exact hall.out j h (by omega)
      clear hs hag hall
      generalize alkB d l[k] x = eb at *
      go_wp2_with (refine wpList_load_mid rfl 42 (.tmp 14) (by rfl) b (off + k * 10) (by rfl) cs _ hr Tryd.underlying42 rfl (info_item hlen) ?_)
      refine HC.out.mono ?_
      rintro e w1 ⟨rfl, b1⟩
      have B1 := Below.on hbel b1
      clear hr b1 HC
      cases eb with
      | true =>
        have HF := hide' (HY.out rfl)
        clear HY HA
        go_wp2
        go_ret
        exact ⟨⟨k, rfl, by omega, by omega, by rw [HF.out]; simp⟩, B1⟩
      | false =>
        have HF := hide' (HA.out rfl)
        clear HY HA
        go_wp2
        go_roundw
        case rel => exact ⟨k + 1, by omega, by go_num, B1, HF⟩
        case measure => simp [intOf]; omega
    · have hlt' : ¬ (k : Int) < (l.length : Int) := by omega
      have HF : Hid ((l.any fun y => alkB d y x) = false) := by
        show _ = _
        rw [List.any_eq_false]
        intro y hy
        obtain ⟨j, hj, rfl⟩ := List.getElem_of_mem hy
        rw [hall.out j hj (by omega)]
        simp
      clear hall
      go_wp2
      go_ret
      exact ⟨⟨-1, rfl, by omega, by omega, by rw [HF.out]; simp⟩, hbel⟩

set_option maxHeartbeats 1600000 in
theorem namedAlike_any (d N : Nat) (cx : List Value) (a : Option Addr) (cap : Nat) (l : List (Itm d)) (x : Itm d) (w : World) (hl : ILSeg (fun b => b < N) w d (.slice a l.length cap) l) (hx : ISeg (fun b => b < N) w d cx x) (hN : N ≤ w.heap.size) (hn : l.length ≤ 1048576) :
    Calls Tryd.prog 21 #[.slice a l.length cap, .agg cx.toArray] w fun e w' => e = .returned (.bool (l.any fun y => alkB d y x)) ∧ Below w.heap.size w w' := by
  have Hb : Hid (∀ o : Obj, Below w.heap.size w (w.alloc o)) := fun o => (Below.refl _ _).alloc (Nat.le_refl _) o
  have HC : Hid (Calls Tryd.prog 48 #[.slice a l.length cap, .func (.func 49) #[] #[.pointer (some ⟨w.heap.size, 0, none⟩)]] (w.alloc (.cells cx.toArray 42)) fun e w' => e = .returned (.bool (l.any fun y => alkB d y x)) ∧ Below (w.alloc (.cells cx.toArray 42)).heap.size (w.alloc (.cells cx.toArray 42)) w') := by
    have hag : Agree (fun b => b < N) w (w.alloc (.cells cx.toArray 42)) := agree_below ((Hb.out _).mono hN)
    have HI := hide' (indexFunc_any d N w.heap.size cx a cap l x (w.alloc (.cells cx.toArray 42)) (hl.agree hag) (hx.agree hag) (by simp; omega) (MapKept.heap_alloc w _).1 hn)
    generalize w.alloc (.cells cx.toArray 42) = wA at *
    generalize w.heap.size = g at *
    show Calls _ _ _ _ _
    go_enter Tryd.func48, Tryd.ntmps48
    go_wp2_with fail
    refine HI.out.mono ?_
    rintro e w1 ⟨⟨r, rfl, hr0, hr1, hr⟩, b1⟩
    have HR := hide' hr
    clear hr
    go_wp2
    go_ret
    exact ⟨ret_bool (by rw [← HR.out]), b1⟩
  have hlen := hx.len
  clear hl hx
  go_enter Tryd.func21, Tryd.ntmps21
  go_wp2_with fail
  refine HC.out.mono ?_
  rintro e w1 ⟨rfl, b1⟩
  have B1 := Below.on (Hb.out _) b1
  clear b1
  go_wp2
  go_ret
  exact ⟨rfl, B1⟩
end Go.Proofs.YthkbapkndmlpfaaDoor
/-
  headerOk of the program.
-/
namespace Go.Proofs.YthkbapkndmlpfaaDoor
open Go.RowKit
set_option linter.unusedVariables false
set_option linter.unusedSimpArgs false

/-- What headerOk answers. -/
def hdrB (d : Nat) (it : Itm d) : Bool := headB d it && (if it.1 = 1 then ascB it.2.2.2.2.1 else true)

set_option maxHeartbeats 6400000 in
set_option maxRecDepth 100000 in
theorem headerOk_any (d N : Nat) (cs : List Value) (it : Itm d) (w : World) (h : ISeg (fun b => b < N) w d cs it) (hN : N ≤ w.heap.size) :
    Calls Tryd.prog 20 #[.agg cs.toArray] w fun e w' => e = .returned (.bool (hdrB d it)) ∧ Below w.heap.size w w' := by
  obtain ⟨na, np, bk, bn, a2, l2, p2, a3, l3, p3, a4, l4, p4, xa, xp, ea, ep, rfl, ht, hv, hk, hl⟩ := h.form
  obtain ⟨k, nm, mn, by', ks, es⟩ := it
  obtain ⟨R, hR⟩ : ∃ R, R = hdrB d (k, nm, mn, by', ks, es) := ⟨_, rfl⟩
  rw [← hR]
  simp only [hdrB, headB] at ht hv hk hl hR
  have HR := hide' hR
  clear hR
  have Hb : Hid (∀ o : Obj, Below w.heap.size w (w.alloc o)) := fun o => (Below.refl _ _).alloc (Nat.le_refl _) o
  have HW : Hid (∀ o : Obj, Calls Tryd.prog 46 #[.slice na nm.length np] (w.alloc o) fun e w' => e = .returned (.bool (wordB nm)) ∧ w.alloc o = w') := fun o => by
    have ht' := ht.agree (w' := w.alloc o) (agree_below ((Hb.out o).mono hN))
    obtain ⟨_, _, e1, s1, _, m1, _⟩ := ht'
    simp at e1
    obtain ⟨rfl, _⟩ := e1
    exact impl_wordOk_any na np nm (w.alloc o) s1 (by omega)
  have HA : Hid (∀ o : Obj, Calls Tryd.prog 47 #[.slice xa ks.length xp] (w.alloc o) fun e w' => e = .returned (.bool (ascB ks)) ∧ w.alloc o = w') := fun o => ascendingNames_any (fun b => b < N) _ ks (w.alloc o) (hk.agree (agree_below ((Hb.out o).mono hN)))
  have mk : ks.length ≤ 9223372036854775807 := by obtain ⟨_, _, e, q, m, _⟩ := hk; unfold maxLen at m; omega
  have me : es.length ≤ 9223372036854775807 := by obtain ⟨_, _, e, q, m, _⟩ := hl; unfold maxLen at m; omega
  clear ht hv hk hl h
  generalize wordB nm = wd at *
  generalize ascB ks = ac at *
  generalize nm.length = s0 at *
  generalize ks.length = kl at *
  generalize es.length = el at *
  by_cases c2 : wd = false
  · subst c2
    go_enter Tryd.func20, Tryd.ntmps20
    go_wp2_with fail
    refine (HW.out _).mono ?_
    rintro e w1 ⟨rfl, e1⟩
    obtain rfl := e1
    go_wp2
    go_ret
    exact ⟨ret_bool (by rw [HR.out]; first | (simp; done) | (simp; omega) | (simp; intros; omega)), Hb.out _⟩
  replace c2 : wd = true := by simpa using c2
  subst c2
  by_cases c3 : 6 < el
  · have c3' : (6 : Int) < (el : Int) := by omega
    have c4 : ¬ el ≤ 6 := by omega
    go_enter Tryd.func20, Tryd.ntmps20
    go_wp2_with fail
    refine (HW.out _).mono ?_
    rintro e w1 ⟨rfl, e1⟩
    obtain rfl := e1
    go_wp2
    go_ret
    exact ⟨ret_bool (by rw [HR.out]; first | (simp [c4]; done) | (simp [c4]; omega) | (simp [c4]; intros; omega)), Hb.out _⟩
  have c3' : ¬ (6 : Int) < (el : Int) := by omega
  have c4 : el ≤ 6 := by omega
  by_cases k1 : k = 1
  · subst k1
    by_cases d0 : 0 ≤ mn
    rotate_left
    · have d0' : mn < 0 := by omega
      go_enter Tryd.func20, Tryd.ntmps20
      go_wp2_with fail
      refine (HW.out _).mono ?_
      rintro e w1 ⟨rfl, e1⟩
      obtain rfl := e1
      go_wp2
      go_ret
      exact ⟨ret_bool (by rw [HR.out]; first | (simp [d0]; done) | (simp [d0]; omega) | (simp [d0]; intros; omega)), Hb.out _⟩
    by_cases d1 : mn ≤ 2
    rotate_left
    · have d1' : 2 < mn := by omega
      go_enter Tryd.func20, Tryd.ntmps20
      go_wp2_with fail
      refine (HW.out _).mono ?_
      rintro e w1 ⟨rfl, e1⟩
      obtain rfl := e1
      go_wp2
      go_ret
      exact ⟨ret_bool (by rw [HR.out]; first | (simp [d1]; done) | (simp [d1]; omega) | (simp [d1]; intros; omega)), Hb.out _⟩
    by_cases d4 : kl = el
    rotate_left
    · have d4' : ¬ (kl : Int) = (el : Int) := by omega
      go_enter Tryd.func20, Tryd.ntmps20
      go_wp2_with fail
      refine (HW.out _).mono ?_
      rintro e w1 ⟨rfl, e1⟩
      obtain rfl := e1
      go_wp2
      go_ret
      exact ⟨ret_bool (by rw [HR.out]; first | (simp [d4]; done) | (simp [d4]; omega) | (simp [d4]; intros; omega)), Hb.out _⟩
    subst d4
    go_enter Tryd.func20, Tryd.ntmps20
    go_wp2_with fail
    refine (HW.out _).mono ?_
    rintro e w1 ⟨rfl, e1⟩
    obtain rfl := e1
    go_wp2_with fail
    refine (HA.out _).mono ?_
    rintro e w1 ⟨rfl, e1⟩
    obtain rfl := e1
    go_wp2
    go_ret
    exact ⟨ret_bool (by rw [HR.out]; first | (simp [c4, d0, d1]; done) | (simp [c4, d0, d1]; omega) | (simp [c4, d0, d1]; intros; omega)), Hb.out _⟩
  by_cases k0 : k = 0
  · subst k0
    by_cases d2 : mn = 0
    rotate_left
    · have d2b : (mn == 0) = false := by simpa using d2
      go_enter Tryd.func20, Tryd.ntmps20
      go_wp2_with fail
      refine (HW.out _).mono ?_
      rintro e w1 ⟨rfl, e1⟩
      obtain rfl := e1
      go_wp2
      go_ret
      exact ⟨ret_bool (by rw [HR.out]; first | (simp [d2]; done) | (simp [d2]; omega) | (simp [d2]; intros; omega)), Hb.out _⟩
    subst d2
    by_cases d4 : kl = 0
    rotate_left
    · have d4' : ¬ (kl : Int) = 0 := by omega
      go_enter Tryd.func20, Tryd.ntmps20
      go_wp2_with fail
      refine (HW.out _).mono ?_
      rintro e w1 ⟨rfl, e1⟩
      obtain rfl := e1
      go_wp2
      go_ret
      exact ⟨ret_bool (by rw [HR.out]; first | (simp [d4]; done) | (simp [d4]; omega) | (simp [d4]; intros; omega)), Hb.out _⟩
    subst d4
    by_cases d5 : el = 1
    rotate_left
    · have d5' : ¬ (el : Int) = 1 := by omega
      go_enter Tryd.func20, Tryd.ntmps20
      go_wp2_with fail
      refine (HW.out _).mono ?_
      rintro e w1 ⟨rfl, e1⟩
      obtain rfl := e1
      go_wp2
      go_ret
      exact ⟨ret_bool (by rw [HR.out]; first | (simp [d5]; done) | (simp [d5]; omega) | (simp [d5]; intros; omega)), Hb.out _⟩
    subst d5
    go_enter Tryd.func20, Tryd.ntmps20
    go_wp2_with fail
    refine (HW.out _).mono ?_
    rintro e w1 ⟨rfl, e1⟩
    obtain rfl := e1
    go_wp2
    go_ret
    exact ⟨ret_bool (by rw [HR.out]; first | (simp; done) | (simp; omega) | (simp; intros; omega)), Hb.out _⟩
  by_cases k2 : k = 2
  · subst k2
    by_cases d2 : mn = 0
    rotate_left
    · have d2b : (mn == 0) = false := by simpa using d2
      go_enter Tryd.func20, Tryd.ntmps20
      go_wp2_with fail
      refine (HW.out _).mono ?_
      rintro e w1 ⟨rfl, e1⟩
      obtain rfl := e1
      go_wp2
      go_ret
      exact ⟨ret_bool (by rw [HR.out]; first | (simp [d2]; done) | (simp [d2]; omega) | (simp [d2]; intros; omega)), Hb.out _⟩
    subst d2
    by_cases d4 : kl = 0
    rotate_left
    · have d4' : ¬ (kl : Int) = 0 := by omega
      go_enter Tryd.func20, Tryd.ntmps20
      go_wp2_with fail
      refine (HW.out _).mono ?_
      rintro e w1 ⟨rfl, e1⟩
      obtain rfl := e1
      go_wp2
      go_ret
      exact ⟨ret_bool (by rw [HR.out]; first | (simp [d4]; done) | (simp [d4]; omega) | (simp [d4]; intros; omega)), Hb.out _⟩
    subst d4
    by_cases d5 : el = 1
    rotate_left
    · have d5' : ¬ (el : Int) = 1 := by omega
      go_enter Tryd.func20, Tryd.ntmps20
      go_wp2_with fail
      refine (HW.out _).mono ?_
      rintro e w1 ⟨rfl, e1⟩
      obtain rfl := e1
      go_wp2
      go_ret
      exact ⟨ret_bool (by rw [HR.out]; first | (simp [d5]; done) | (simp [d5]; omega) | (simp [d5]; intros; omega)), Hb.out _⟩
    subst d5
    go_enter Tryd.func20, Tryd.ntmps20
    go_wp2_with fail
    refine (HW.out _).mono ?_
    rintro e w1 ⟨rfl, e1⟩
    obtain rfl := e1
    go_wp2
    go_ret
    exact ⟨ret_bool (by rw [HR.out]; first | (simp; done) | (simp; omega) | (simp; intros; omega)), Hb.out _⟩
  have q1 : (k == 1) = false := by simpa using k1
  have q0 : (k == 0) = false := by simpa using k0
  have q2 : (k == 2) = false := by simpa using k2
  go_enter Tryd.func20, Tryd.ntmps20
  go_wp2_with fail
  refine (HW.out _).mono ?_
  rintro e w1 ⟨rfl, e1⟩
  obtain rfl := e1
  go_wp2
  go_ret
  exact ⟨ret_bool (by rw [HR.out]; first | (simp [k0, k1, k2]; done) | (simp [k0, k1, k2]; omega) | (simp [k0, k1, k2]; intros; omega)), Hb.out _⟩
end Go.Proofs.YthkbapkndmlpfaaDoor
/-
  What ConfigOk answers: plain mathematics.
-/
namespace Go.Proofs.YthkbapkndmlpfaaDoor
open Go.RowKit
set_option linter.unusedVariables false
set_option linter.unusedSimpArgs false

theorem itemB_two (d : Nat) (it : Itm d) : itemB d it = (hdrB d it && tkB d it) := by
  simp only [itemB, hdrB, tkB, Bool.and_assoc]

/-- Item i may be, and is not alike to one ahead of it. -/
def okAt (d : Nat) (l : List (Itm d)) (i : Nat) (x : Itm d) : Bool := itemB d x && !((l.take i).any fun y => alkB d y x)

/-- What ConfigOk answers. -/
def cfgB (d : Nat) (l : List (Itm d)) : Bool := decide (l.length ≤ 12 ∧ (∀ i (h : i < l.length), okAt d l i l[i] = true) ∧ pre (itemP d) l l.length ≤ 150)

theorem cfg_long {d : Nat} {l : List (Itm d)} (h : 12 < l.length) : cfgB d l = false := by
  unfold cfgB
  rw [decide_eq_false_iff_not]
  rintro ⟨h1, _⟩
  omega
theorem cfg_at {d : Nat} {l : List (Itm d)} {i : Nat} (hi : i < l.length) (h : okAt d l i l[i] = false) : cfgB d l = false := by
  unfold cfgB
  rw [decide_eq_false_iff_not]
  rintro ⟨_, h1, _⟩
  rw [h1 i hi] at h
  cases h
theorem cfg_sum {d : Nat} {l : List (Itm d)} {k : Nat} (hk : k < l.length) (h : ¬ pre (itemP d) l k + itemP d l[k] ≤ 150) : cfgB d l = false := by
  unfold cfgB
  rw [decide_eq_false_iff_not]
  rintro ⟨_, _, h1⟩
  have h3 := pre_succ (itemP d) l k hk
  have h4 := pre_le (itemP d) l (k + 1)
  have h5 := pre_all (itemP d) l
  omega
theorem cfg_yes {d : Nat} {l : List (Itm d)} (h0 : l.length ≤ 12) (h1 : ∀ i (h : i < l.length), okAt d l i l[i] = true) (h2 : pre (itemP d) l l.length ≤ 150) : cfgB d l = true := by
  unfold cfgB
  rw [decide_eq_true_eq]
  exact ⟨h0, h1, h2⟩

theorem ILSeg.take {R : Nat → Prop} {w : World} {d : Nat} {a : Option Addr} {cap : Nat} {l : List (Itm d)} (h : ILSeg R w d (.slice a l.length cap) l) {k : Nat} (hk : k ≤ l.length) : ILSeg R w d (.slice a (l.take k).length cap) (l.take k) := by
  obtain ⟨a', cap', e, h1, h2, h3, h4⟩ := h
  simp only [Value.slice.injEq, true_and] at e
  obtain ⟨rfl, rfl⟩ := e
  refine ⟨a, cap, rfl, by simp; omega, h2, h3, ?_⟩
  rcases h4 with rfl | ⟨b, off, ha, hR, hc⟩
  · exact .inl (by simp)
  · refine .inr ⟨b, off, ha, hR, fun i hi => ?_⟩
    have hi' : i < l.length := by simp at hi; omega
    obtain ⟨cs, hr, hv⟩ := hc i hi'
    exact ⟨cs, hr, by rw [List.getElem_take]; exact hv⟩
end Go.Proofs.YthkbapkndmlpfaaDoor
/-
  l6zero of the specification, and l6item where an item's head is wrong.
-/
namespace Go.Proofs.YthkbapkndmlpfaaDoor
open Go.RowKit
set_option linter.unusedVariables false
set_option linter.unusedSimpArgs false

set_option maxHeartbeats 1600000 in
set_option maxRecDepth 100000 in
theorem l6zero_any (d N : Nat) (c0 c1 c2 c3 c4 : Value) (v : Vl d) (w : World) (hv : VSeg (fun b => b < N) w d (c0, c1, c2, c3, c4) v) :
    Calls Tryd.prog 43 #[.agg #[c0, c1, c2, c3, c4]] w fun e w' => e = .returned (.bool (zeroE d v)) ∧ Below w.heap.size w w' := by
  cases d with
  | zero => exact hv.elim
  | succ d =>
    obtain ⟨vk, vn, vs, vK, vL⟩ := v
    obtain ⟨e0, e1, ht, hk, hl⟩ := (VSeg_succ _ _ _ _ _).1 hv
    simp only at e0 e1 ht hk hl
    subst e0
    subst e1
    have m2 : vs.length ≤ 9223372036854775807 := by obtain ⟨_, _, _, _, q, m, _⟩ := ht; unfold maxLen at m; omega
    have m3 : vK.length ≤ 9223372036854775807 := by obtain ⟨_, _, _, q, m, _⟩ := hk; unfold maxLen at m; omega
    have m4 : vL.length ≤ 9223372036854775807 := by obtain ⟨_, _, _, q, m, _⟩ := hl; unfold maxLen at m; omega
    obtain ⟨a2, p2, rfl, -⟩ := ht
    obtain ⟨a3, p3, rfl, -⟩ := hk
    obtain ⟨a4, p4, rfl, -⟩ := hl
    have Hb : Hid (∀ o : Obj, Below w.heap.size w (w.alloc o)) := fun o => (Below.refl _ _).alloc (Nat.le_refl _) o
    have HZ : Hid (zeroE (d + 1) (vk, vn, vs, vK, vL) = (decide (vk = 0) && (decide (vn = 0) && (decide (vs.length = 0) && (decide (vK.length = 0) && decide (vL.length = 0)))))) := rfl
    rw [HZ.out]
    clear hv HZ
    generalize vs.length = n2 at *
    generalize vK.length = n3 at *
    generalize vL.length = n4 at *
    by_cases h0 : vk = 0
    · subst h0
      by_cases h1 : vn = 0
      · subst h1
        by_cases h2 : n2 = 0
        · subst h2
          by_cases h3 : n3 = 0
          · subst h3
            by_cases h4 : n4 = 0
            · subst h4
              go_enter Tryd.func43, Tryd.ntmps43
              go_wp2
              go_ret
              exact ⟨ret_bool (by simp), Hb.out _⟩
            · have h4' : ¬ (n4 : Int) = 0 := by omega
              go_enter Tryd.func43, Tryd.ntmps43
              go_wp2
              go_ret
              exact ⟨ret_bool (by simp [h4]), Hb.out _⟩
          · have h3' : ¬ (n3 : Int) = 0 := by omega
            go_enter Tryd.func43, Tryd.ntmps43
            go_wp2
            go_ret
            exact ⟨ret_bool (by simp [h3]), Hb.out _⟩
        · have h2' : ¬ (n2 : Int) = 0 := by omega
          go_enter Tryd.func43, Tryd.ntmps43
          go_wp2
          go_ret
          exact ⟨ret_bool (by simp [h2]), Hb.out _⟩
      · go_enter Tryd.func43, Tryd.ntmps43
        go_wp2
        go_ret
        exact ⟨ret_bool (by simp [h1]), Hb.out _⟩
    · go_enter Tryd.func43, Tryd.ntmps43
      go_wp2
      go_ret
      exact ⟨ret_bool (by simp [h0]), Hb.out _⟩
end Go.Proofs.YthkbapkndmlpfaaDoor
