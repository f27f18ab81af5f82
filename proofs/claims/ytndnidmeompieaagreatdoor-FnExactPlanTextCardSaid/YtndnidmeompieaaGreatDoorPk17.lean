/-
  Texts that a law leans on, one behind the other; no statement is proved here.
-/
import Derived.Test.YtndnidmeompieaaGreatDoorPk12
import Derived.Test.YtndnidmeompieaaGreatDoorPk16
import Derived.Test.YtndnidmeompieaaGreatDoorPk10
import Derived.Test.YtndnidmeompieaaGreatDoorPk9
import Derived.Test.YtndnidmeompieaaGreatDoorPk1
import Derived.Test.YtndnidmeompieaaGreatDoorPk2
import Derived.Test.YtndnidmeompieaaGreatDoorPk8
/-
  planOk and Asks of the program, Asks of the specification.
-/
namespace Go.Proofs.YtndnidmeompieaaGreatDoor
open Go.RowKit
set_option linter.unusedVariables false
set_option linter.unusedSimpArgs false

set_option maxHeartbeats 6400000 in
set_option maxRecDepth 100000 in
theorem impl_planOk_any (d N : Nat) (x : Value) (l : List (Rcd d)) (s : Int) (w : World) (hx : RLSg (fun b => b < N) w d x l) (hN : N ≤ w.heap.size) (hz : ∀ i (h : i < l.length), RSz d l[i]) (hE : Errs w) :
    Calls Tryz.prog 20 #[.agg #[x, .int .i64 s]] w fun e w' => e = .returned (.bool (planB d l s)) ∧ Below w.heap.size w w' := by
  have HX := hide' hx
  have HEr := hide' hE
  have HZ : Hid (∀ i (h : i < l.length), (l[i]).2.1.length ≤ 1048576) := fun i h => (hz i h).1
  obtain ⟨a, cap, rfl, hlc, hcm, _, _⟩ := hx
  unfold maxLen at hcm
  clear hz hE
  have HA : Hid (∀ o : Obj, Below w.heap.size w (w.alloc o)) := fun o => (Below.refl _ _).alloc (Nat.le_refl _) o
  by_cases hh : l.length ≤ 32 ∧ 0 ≤ s ∧ s ≤ 16
  rotate_left
  · have HF := hide' (plan_no (d := d) (l := l) hh)
    have hcase : (32 : Int) < (l.length : Int) ∨ (¬ (32 : Int) < (l.length : Int) ∧ s < 0) ∨ (¬ (32 : Int) < (l.length : Int) ∧ ¬ s < 0 ∧ 16 < s) := by omega
    clear hh
    rcases hcase with h1 | ⟨h1, h2⟩ | ⟨h1, h2, h3⟩
    all_goals
      go_enter Tryz.func20, Tryz.ntmps20
      go_wp2
      go_ret
      exact ⟨ret_bool HF.out.symm, HA.out _⟩
  obtain ⟨hl32, hs0, hs16⟩ := hh
  have h1 : ¬ (32 : Int) < (l.length : Int) := by omega
  have h2 : ¬ s < 0 := by omega
  have h3 : ¬ 16 < s := by omega
  have H0 : Hid (∀ o : Obj, (∀ j (h : j < l.length), j < 0 → actB d l[j] = true) ∧ Below w.heap.size w (w.alloc o)) := fun o => ⟨fun j h h' => by omega, HA.out o⟩
  go_enter Tryz.func20, Tryz.ntmps20
  go_wp2
  go_loopw [22, 4] (fun i _ wr => ∃ k : Nat, k ≤ l.length ∧ i = .int .i64 k ∧ Hid ((∀ j (h : j < l.length), j < k → actB d l[j] = true) ∧ Below w.heap.size w wr)) (fun i _ _ => l.length - (intOf i).toNat)
  case atStart => exact ⟨0, Nat.zero_le _, rfl, H0.out _⟩
  case round =>
    clear H0 h2 h3
    obtain ⟨k, hk, rfl, hS⟩ := hrel
    obtain ⟨hall, hbr⟩ := hS.out
    have HAll := hide' hall
    have hz := hbr.size
    by_cases hlt : k < l.length
    rotate_left
    · have hlt' : ¬ (k : Int) < (l.length : Int) := by omega
      have HF := hide' (plan_yes (s := s) (by omega) (by omega) (by omega) (fun j h => hall j h (by omega)))
      have HB := hide' hbr
      clear hS hall hbr
      go_wp2
      go_ret
      exact ⟨ret_bool HF.out.symm, HB.out⟩
    have hlt' : (k : Int) < (l.length : Int) := by omega
    obtain ⟨b, off, cs, rfl, hbN, hr, hsg⟩ := (HX.out.agree (agree_below (hbr.mono hN))).at hlt
    have hadl := HZ.out k hlt
    have HAt : Hid (actB d l[k] = false → planB d l s = false) := fun h => plan_at hlt h
    have HAct : Hid (actB d l[k] = true → ∀ j (h : j < l.length), j < k + 1 → actB d l[j] = true) := fun hk1 j h hj => by
      by_cases e : j = k
      · subst e; exact hk1
      · exact HAll.out j h (by omega)
    obtain ⟨na, np, bk, bn, a2, l2, p2, a3, l3, p3, a4, l4, p4, xa, xp, rfl, ht, hv, _⟩ := hsg.form
    have u0 := hr 0 _ rfl
    have u1 := hr 1 _ rfl
    have u2 := hr 2 _ rfl
    have u3 := hr 3 _ rfl
    have u4 := hr 4 _ rfl
    have u5 := hr 5 _ rfl
    have u6 := hr 6 _ rfl
    have u7 := hr 7 _ rfl
    have u8 := hr 8 _ rfl
    simp only [Nat.add_zero] at u0
    generalize l[k] = it at *
    obtain ⟨kk, ad, jj, vv, ds⟩ := it
    simp only at ht hv hadl HAt HAct u0 u1 u2 u3 u4 u5 u6 u7 u8
    obtain ⟨na', np', e1, hsa, hac, hac2, hna', hral⟩ := ht
    simp only [Value.slice.injEq, true_and] at e1
    obtain ⟨rfl, rfl⟩ := e1
    have HSa : Hid (∀ wx, Below w.heap.size w wx → Seg wx na ad) := fun wx hb => by
      refine ⟨hsa.1, ?_⟩
      rcases hsa.2 with h | ⟨b1, o1, rfl, hc⟩
      · exact .inl h
      · by_cases he : ad = []
        · exact .inl he
        · have hb1 : b1 < N := hral _ rfl he
          exact .inr ⟨b1, o1, rfl, fun i hi => (World.cell?_of_block ((hb.block b1 (by omega)).trans (hbr.block b1 (by omega)).symm)).trans (hc i hi)⟩
    have HVs : Hid (∀ wx, Below w.heap.size w wx → VSeg (fun b => b < N) wx d (.int .i64 bk, .int .i64 bn, .slice a2 l2 p2, .slice a3 l3 p3, .slice a4 l4 p4) vv) := fun wx hb => VSeg.agree (fun b1 hb1 => (hb.block b1 (by omega)).trans (hbr.block b1 (by omega)).symm) d hv
    have hBW : Hid (Below w.heap.size w (wr.alloc (.cells #[.int .i64 kk, .slice na ad.length np, .int .i64 jj, .int .i64 bk, .int .i64 bn, .slice a2 l2 p2, .slice a3 l3 p3, .slice a4 l4 p4, .slice xa ds.length xp] 43))) := hbr.alloc hz _
    have hEW : Hid ((wr.alloc (.cells #[.int .i64 kk, .slice na ad.length np, .int .i64 jj, .int .i64 bk, .int .i64 bn, .slice a2 l2 p2, .slice a3 l3 p3, .slice a4 l4 p4, .slice xa ds.length xp] 43)).heap[wr.heap.size]? = some (.cells #[.int .i64 kk, .slice na ad.length np, .int .i64 jj, .int .i64 bk, .int .i64 bn, .slice a2 l2 p2, .slice a3 l3 p3, .slice a4 l4 p4, .slice xa ds.length xp] 43 (0, 0))) := (MapKept.heap_alloc wr _).1
    obtain ⟨f0, f1, f3, f4, f5, f6, f7⟩ := act_row hEW.out
    have HAd : Hid (∀ wx, Below w.heap.size w wx → Calls Tryz.prog 31 #[.slice na ad.length np] wx fun e w' => e = .returned (.bool (addrB ad)) ∧ Below wx.heap.size wx w') := fun wx hb => impl_AddrOk_any na np ad wx (HSa.out wx hb) (by omega) hac hac2 hna' (HEr.out.grow hb)
    have HOk : Hid (∀ wx, Below w.heap.size w wx → Calls Tryz.prog 32 #[.agg #[.int .i64 bk, .int .i64 bn, .slice a2 l2 p2, .slice a3 l3 p3, .slice a4 l4 p4]] wx fun e w' => e = .returned (.bool (okB d vv)) ∧ Below wx.heap.size wx w') := fun wx hb => impl_ValOk_any d N _ _ _ _ _ vv wx (HVs.out wx hb) (by have := hb.size; omega)
    have HAk := hide' (actOk_any kk)
    clear hsg hr hv hsa hral hS hall
    cases hak : (decide (1 ≤ kk) && decide (kk ≤ 4)) with
    | false =>
      have HF := hide' (HAt.out (by unfold actB; simp only; rw [← Bool.and_assoc, hak]; rfl))
      rw [hak] at HAk
      go_wp2_with fail
      refine (HAk.out _).mono ?_
      rintro e w1 ⟨rfl, rfl⟩
      go_wp2
      go_ret
      exact ⟨ret_bool HF.out.symm, hBW.out⟩
    | true =>
    rw [hak] at HAk
    cases hadb : addrB ad with
    | false =>
      have HF := hide' (HAt.out (by unfold actB; simp only; rw [← Bool.and_assoc, hak, hadb]; rfl))
      rw [hadb] at HAd
      go_wp2_with fail
      refine (HAk.out _).mono ?_
      rintro e w1 ⟨rfl, rfl⟩
      go_wp2_with fail
      refine (HAd.out _ hBW.out).mono ?_
      rintro e w2 ⟨rfl, b2⟩
      have B2 := hide' (Below.on hBW.out b2)
      clear b2
      go_wp2
      go_ret
      exact ⟨ret_bool HF.out.symm, B2.out⟩
    | true =>
    have HYes : Hid (okB d vv = true → ∀ j (h : j < l.length), j < k + 1 → actB d l[j] = true) := fun hok => HAct.out (by unfold actB; simp only; rw [← Bool.and_assoc, hak, hadb, hok]; rfl)
    have HNo : Hid (okB d vv = false → planB d l s = false) := fun hok => HAt.out (by unfold actB; simp only; rw [← Bool.and_assoc, hak, hadb, hok]; rfl)
    rw [hadb] at HAd
    clear hak hadb HAt HAct
    go_wp2_with fail
    refine (HAk.out _).mono ?_
    rintro e w1 ⟨rfl, rfl⟩
    go_wp2_with fail
    refine (HAd.out _ hBW.out).mono ?_
    rintro e w2 ⟨rfl, b2⟩
    have hb := hide' (Below.on hBW.out b2)
    have hE2 := hide' ((b2.block _ (Array.getElem?_eq_some_iff.1 hEW.out).1).trans hEW.out)
    clear f0 f1 f3 f4 f5 f6 f7 b2 hBW hEW u0 u1 u2 u3 u4 u5 u6 u7 u8
    obtain ⟨f0, f1, f3, f4, f5, f6, f7⟩ := act_row hE2.out
    go_wp2_with fail
    refine (HOk.out _ hb.out).mono ?_
    rintro e w3 ⟨rfl, b3⟩
    have B3 := hide' (Below.on hb.out b3)
    clear b3 hb
    cases hokb : okB d vv with
    | false =>
      have HF := hide' (HNo.out hokb)
      clear HYes HNo hokb
      go_wp2
      go_ret
      exact ⟨ret_bool HF.out.symm, B3.out⟩
    | true =>
      have HN : Hid ((∀ j (h : j < l.length), j < k + 1 → actB d l[j] = true) ∧ Below w.heap.size w w3) := ⟨HYes.out hokb, B3.out⟩
      clear HYes HNo hokb
      go_wp2
      go_roundw
      case rel => exact ⟨k + 1, by omega, by go_num, HN⟩
      case measure => simp [intOf]; omega

/-- What Asks answers. -/
def asksA (d : Nat) (l : List (Rcd d)) (s : Int) : Int := if planB d l s = true then (l.length : Int) else 0

end Go.Proofs.YtndnidmeompieaaGreatDoor
/-
  Which type a part is: the type assertions of a part, at each type.
-/
namespace Go.Proofs.YtndnidmeompieaaGreatDoor
open Go.RowKit
set_option linter.unusedVariables false
set_option linter.unusedSimpArgs false

theorem nobool_nullPart (x : Value) (w : World) : (Instr.typeAssert (.iface 99 x) 76 101 true).run Tryz.prog w = .ok (.tuple #[.agg #[.int .i64 0], .bool false]) w := by kernel_rfl
theorem nobool_unknownPart (x : Value) (w : World) : (Instr.typeAssert (.iface 116 x) 76 101 true).run Tryz.prog w = .ok (.tuple #[.agg #[.int .i64 0], .bool false]) w := by kernel_rfl
theorem nobool_intPart (x : Value) (w : World) : (Instr.typeAssert (.iface 103 x) 76 101 true).run Tryz.prog w = .ok (.tuple #[.agg #[.int .i64 0], .bool false]) w := by kernel_rfl
theorem nobool_textPart (x : Value) (w : World) : (Instr.typeAssert (.iface 105 x) 76 101 true).run Tryz.prog w = .ok (.tuple #[.agg #[.int .i64 0], .bool false]) w := by kernel_rfl
theorem nobool_listPart (x : Value) (w : World) : (Instr.typeAssert (.iface 108 x) 76 101 true).run Tryz.prog w = .ok (.tuple #[.agg #[.int .i64 0], .bool false]) w := by kernel_rfl
theorem nobool_mapPart (x : Value) (w : World) : (Instr.typeAssert (.iface 111 x) 76 101 true).run Tryz.prog w = .ok (.tuple #[.agg #[.int .i64 0], .bool false]) w := by kernel_rfl
theorem noint_nullPart (x : Value) (w : World) : (Instr.typeAssert (.iface 99 x) 76 103 true).run Tryz.prog w = .ok (.tuple #[.agg #[.int .i64 0], .bool false]) w := by kernel_rfl
theorem noint_unknownPart (x : Value) (w : World) : (Instr.typeAssert (.iface 116 x) 76 103 true).run Tryz.prog w = .ok (.tuple #[.agg #[.int .i64 0], .bool false]) w := by kernel_rfl
theorem noint_textPart (x : Value) (w : World) : (Instr.typeAssert (.iface 105 x) 76 103 true).run Tryz.prog w = .ok (.tuple #[.agg #[.int .i64 0], .bool false]) w := by kernel_rfl
theorem noint_listPart (x : Value) (w : World) : (Instr.typeAssert (.iface 108 x) 76 103 true).run Tryz.prog w = .ok (.tuple #[.agg #[.int .i64 0], .bool false]) w := by kernel_rfl
theorem noint_mapPart (x : Value) (w : World) : (Instr.typeAssert (.iface 111 x) 76 103 true).run Tryz.prog w = .ok (.tuple #[.agg #[.int .i64 0], .bool false]) w := by kernel_rfl
theorem notext_nullPart (x : Value) (w : World) : (Instr.typeAssert (.iface 99 x) 76 105 true).run Tryz.prog w = .ok (.tuple #[.agg #[.string ⟨#[]⟩], .bool false]) w := by kernel_rfl
theorem notext_unknownPart (x : Value) (w : World) : (Instr.typeAssert (.iface 116 x) 76 105 true).run Tryz.prog w = .ok (.tuple #[.agg #[.string ⟨#[]⟩], .bool false]) w := by kernel_rfl
theorem notext_listPart (x : Value) (w : World) : (Instr.typeAssert (.iface 108 x) 76 105 true).run Tryz.prog w = .ok (.tuple #[.agg #[.string ⟨#[]⟩], .bool false]) w := by kernel_rfl
theorem notext_mapPart (x : Value) (w : World) : (Instr.typeAssert (.iface 111 x) 76 105 true).run Tryz.prog w = .ok (.tuple #[.agg #[.string ⟨#[]⟩], .bool false]) w := by kernel_rfl
theorem nolist_nullPart (x : Value) (w : World) : (Instr.typeAssert (.iface 99 x) 76 108 true).run Tryz.prog w = .ok (.tuple #[.agg #[.slice none 0 0], .bool false]) w := by kernel_rfl
theorem nolist_unknownPart (x : Value) (w : World) : (Instr.typeAssert (.iface 116 x) 76 108 true).run Tryz.prog w = .ok (.tuple #[.agg #[.slice none 0 0], .bool false]) w := by kernel_rfl
theorem nolist_mapPart (x : Value) (w : World) : (Instr.typeAssert (.iface 111 x) 76 108 true).run Tryz.prog w = .ok (.tuple #[.agg #[.slice none 0 0], .bool false]) w := by kernel_rfl
theorem nomap_nullPart (x : Value) (w : World) : (Instr.typeAssert (.iface 99 x) 76 111 true).run Tryz.prog w = .ok (.tuple #[.agg #[.map none], .bool false]) w := by kernel_rfl
theorem nomap_unknownPart (x : Value) (w : World) : (Instr.typeAssert (.iface 116 x) 76 111 true).run Tryz.prog w = .ok (.tuple #[.agg #[.map none], .bool false]) w := by kernel_rfl
theorem is_boolPart (x : Value) (w : World) : (Instr.typeAssert (.iface 101 x) 76 101 true).run Tryz.prog w = .ok (.tuple #[x, .bool true]) w := by kernel_rfl
theorem is_intPart (x : Value) (w : World) : (Instr.typeAssert (.iface 103 x) 76 103 true).run Tryz.prog w = .ok (.tuple #[x, .bool true]) w := by kernel_rfl
theorem is_textPart (x : Value) (w : World) : (Instr.typeAssert (.iface 105 x) 76 105 true).run Tryz.prog w = .ok (.tuple #[x, .bool true]) w := by kernel_rfl
theorem is_listPart (x : Value) (w : World) : (Instr.typeAssert (.iface 108 x) 76 108 true).run Tryz.prog w = .ok (.tuple #[x, .bool true]) w := by kernel_rfl
theorem is_mapPart (x : Value) (w : World) : (Instr.typeAssert (.iface 111 x) 76 111 true).run Tryz.prog w = .ok (.tuple #[x, .bool true]) w := by kernel_rfl

end Go.Proofs.YtndnidmeompieaaGreatDoor
/-
  ValText of the program: commas, quotes, numbers, words.
-/
namespace Go.Proofs.YtndnidmeompieaaGreatDoor
open Go.RowKit Go.Shelf
set_option linter.unusedVariables false
set_option linter.unusedSimpArgs false

/-- What a call that appends has left. -/
def ApEnd (B : Nat) (ys : List Int) (w : World) (e : Ending) (w' : World) : Prop := ∃ a c, e = .returned (.slice a ys.length c) ∧ Bts w' B (.slice a ys.length c) ys ∧ Below B w w' ∧ Kept w w'

theorem apEnd_of {B : Nat} {ys : List Int} {w w' : World} {u : Value} (h : Bts w' B u ys) (hb : Below B w w') (hk : Kept w w') : ApEnd B ys w (.returned u) w' := by
  obtain ⟨a, c, rfl, _⟩ := h.shape
  exact ⟨a, c, rfl, h, hb, hk⟩

theorem nonull_unknownPart (x : Value) (w : World) : (Instr.typeAssert (.iface 116 x) 76 99 true).run Tryz.prog w = .ok (.tuple #[.agg #[], .bool false]) w := by kernel_rfl
theorem nonull_boolPart (x : Value) (w : World) : (Instr.typeAssert (.iface 101 x) 76 99 true).run Tryz.prog w = .ok (.tuple #[.agg #[], .bool false]) w := by kernel_rfl
theorem nonull_intPart (x : Value) (w : World) : (Instr.typeAssert (.iface 103 x) 76 99 true).run Tryz.prog w = .ok (.tuple #[.agg #[], .bool false]) w := by kernel_rfl
theorem nonull_textPart (x : Value) (w : World) : (Instr.typeAssert (.iface 105 x) 76 99 true).run Tryz.prog w = .ok (.tuple #[.agg #[], .bool false]) w := by kernel_rfl
theorem nonull_listPart (x : Value) (w : World) : (Instr.typeAssert (.iface 108 x) 76 99 true).run Tryz.prog w = .ok (.tuple #[.agg #[], .bool false]) w := by kernel_rfl
theorem nonull_mapPart (x : Value) (w : World) : (Instr.typeAssert (.iface 111 x) 76 99 true).run Tryz.prog w = .ok (.tuple #[.agg #[], .bool false]) w := by kernel_rfl
theorem is_nullPart (x : Value) (w : World) : (Instr.typeAssert (.iface 99 x) 76 99 true).run Tryz.prog w = .ok (.tuple #[x, .bool true]) w := by kernel_rfl
theorem is_unknownPart (x : Value) (w : World) : (Instr.typeAssert (.iface 116 x) 76 116 true).run Tryz.prog w = .ok (.tuple #[x, .bool true]) w := by kernel_rfl

set_option maxHeartbeats 1600000 in
set_option maxRecDepth 100000 in
theorem appendComma_any (B k : Nat) (a : Option Addr) (c : Nat) (xs ys : List Int) (w : World) (hB : Bts w B (.slice a xs.length c) xs) (hBw : B ≤ w.heap.size) (hl : xs.length ≤ 1000000) (hk : k ≤ 1000) (hy0 : k = 0 → ys = xs) (hy1 : ¬ k = 0 → ys = xs ++ [44, 32]) :
    Calls Tryz.prog 66 #[.slice a xs.length c, .int .i64 k] w (ApEnd B ys w) := by
  have HB := hide' hB
  by_cases h0 : k = 0
  · have HF := hide' (hy0 h0)
    subst h0
    clear hB hy0 hy1
    go_enter Tryz.func66, Tryz.ntmps66
    go_wp2
    go_ret
    rw [HF.out]
    exact apEnd_of HB.out (Below.refl _ _) (Kept.refl _)
  · have HF := hide' (hy1 h0)
    have h0' : ((k : Int) == 0) = false := by simpa using h0
    clear h0 hy0 hy1 hB
    go_enter Tryz.func66, Tryz.ntmps66
    go_wp2_with (at_builtin; refine wpList_append_text rfl _ (.const (.string { data := #[44, 32] })) 9 (by rfl) Tryz.underlying9 B (.slice a xs.length c) xs [44, 32] (by rfl) HB.out _ (by rfl) (by simp [Byt]) (by rfl) (by (try simp); omega) hBw ?_; intro v1 w1 hv1 hg1; have hb1 := hide' ((Below.refl B w).grown hg1 hBw HB.out.own); have hk1 := hide' (kept_grown HB.out hg1); replace hv1 := hide' hv1; clear hg1)
    go_ret
    rw [HF.out]
    exact apEnd_of hv1.out hb1.out hk1.out

theorem itoa_int (n : Int) : Lib.byteCells (Lib.itoa n) = cellsOf (intT n) ∧ (Lib.itoa n).length = (intT n).length ∧ ∀ x ∈ intT n, Byt x := by
  unfold Lib.itoa intT
  by_cases h : n < 0
  · rw [if_pos h, if_pos h]
    have e : n.natAbs = (-n).toNat := by omega
    refine ⟨?_, ?_, ?_⟩
    · rw [e]; unfold Lib.byteCells cellsOf decI; simp
    · rw [e]; simp [decI]
    · intro x hx
      rcases List.mem_cons.1 hx with rfl | hx
      · unfold Byt; omega
      · exact decI_byt _ x hx
  · rw [if_neg h, if_neg h]
    refine ⟨?_, ?_, decI_byt _⟩
    · unfold Lib.byteCells cellsOf decI; simp
    · simp [decI]

/-- The table that AppendInt reads. -/
def Tab (B : Nat) (w : World) : Prop := Lib.TabBelow Tryz.prog B w "internal/strconv.uint64pow10" .u64 Lib.pow10Tab

theorem AppendInt_any (B : Nat) (n : Int) (v : Value) (xs : List Int) (w : World) (h0 : -1000000000000 ≤ n) (h1 : n ≤ 1000000000000) (hB : Bts w B v xs) (hBw : B ≤ w.heap.size) (hl : xs.length ≤ 1000000) (ht : Tab B w) :
    Calls Tryz.prog 22 #[v, .int .i64 n, .int .i64 10] w (ApEnd B (xs ++ intT n) w) := by
  refine (Tryz.strconv_AppendInt_10 B xs.length n (by omega) (by omega) v (cellsOf xs) w hB.2 hBw (by omega) ht).mono ?_
  rintro e w' ⟨u, rfl, ho, hb, hok⟩
  obtain ⟨e1, e2, e3⟩ := itoa_int n
  refine apEnd_of ⟨?_, ?_⟩ hb (fun g cs T fr h hT => hok g _ h (by simp) (by intro c fz e; simp only [Obj.cells.injEq] at e; exact hT e.2.1))
  · intro z hz
    rcases List.mem_append.1 hz with h | h
    · exact hB.1 z h
    · exact e3 z h
  · rw [e1, e2, ← cellsOf_append] at ho
    rw [List.length_append]
    exact ho
end Go.Proofs.YtndnidmeompieaaGreatDoor
/-
  ValText of the program: AppendBool, appendQuoted.
-/
namespace Go.Proofs.YtndnidmeompieaaGreatDoor
open Go.RowKit Go.Shelf
set_option linter.unusedVariables false
set_option linter.unusedSimpArgs false

set_option maxHeartbeats 1600000 in
set_option maxRecDepth 100000 in
theorem AppendBool_any (B : Nat) (q : Bool) (a : Option Addr) (c : Nat) (xs : List Int) (w : World) (hB : Bts w B (.slice a xs.length c) xs) (hBw : B ≤ w.heap.size) (hl : xs.length ≤ 1000000) :
    Calls Tryz.prog 64 #[.slice a xs.length c, .bool q] w (ApEnd B (xs ++ (if q then [116, 114, 117, 101] else [102, 97, 108, 115, 101])) w) := by
  have HB := hide' hB
  clear hB
  cases q with
  | true =>
    have HI : Hid (Calls Tryz.prog 88 #[.slice a xs.length c, .bool true] w (ApEnd B (xs ++ [116, 114, 117, 101]) w)) := by
      show Calls _ _ _ _ _
      go_enter Tryz.func88, Tryz.ntmps88
      go_wp2_with (at_builtin; refine wpList_append_text rfl _ (.const (.string { data := #[116, 114, 117, 101] })) 9 (by rfl) Tryz.underlying9 B (.slice a xs.length c) xs [116, 114, 117, 101] (by rfl) HB.out _ (by rfl) (by simp [Byt]) (by rfl) (by (try simp); omega) hBw ?_; intro v1 w1 hv1 hg1; have hb1 := hide' ((Below.refl B w).grown hg1 hBw HB.out.own); have hk1 := hide' (kept_grown HB.out hg1); replace hv1 := hide' hv1; clear hg1)
      go_ret
      exact apEnd_of hv1.out hb1.out hk1.out
    go_enter Tryz.func64, Tryz.ntmps64
    go_wp2_with fail
    refine HI.out.mono ?_
    rintro e w1 ⟨a1, c1, rfl, hv1, hb1, hk1⟩
    have Hk := hide' hk1
    have Hv := hide' hv1
    have Hb := hide' hb1
    clear hv1 hb1 hk1
    generalize (xs ++ [116, 114, 117, 101]).length = m at *
    go_wp2
    go_ret
    exact apEnd_of Hv.out Hb.out Hk.out
  | false =>
    have HI : Hid (Calls Tryz.prog 88 #[.slice a xs.length c, .bool false] w (ApEnd B (xs ++ [102, 97, 108, 115, 101]) w)) := by
      show Calls _ _ _ _ _
      go_enter Tryz.func88, Tryz.ntmps88
      go_wp2_with (at_builtin; refine wpList_append_text rfl _ (.const (.string { data := #[102, 97, 108, 115, 101] })) 9 (by rfl) Tryz.underlying9 B (.slice a xs.length c) xs [102, 97, 108, 115, 101] (by rfl) HB.out _ (by rfl) (by simp [Byt]) (by rfl) (by (try simp); omega) hBw ?_; intro v1 w1 hv1 hg1; have hb1 := hide' ((Below.refl B w).grown hg1 hBw HB.out.own); have hk1 := hide' (kept_grown HB.out hg1); replace hv1 := hide' hv1; clear hg1)
      go_ret
      exact apEnd_of hv1.out hb1.out hk1.out
    go_enter Tryz.func64, Tryz.ntmps64
    go_wp2_with fail
    refine HI.out.mono ?_
    rintro e w1 ⟨a1, c1, rfl, hv1, hb1, hk1⟩
    have Hk := hide' hk1
    have Hv := hide' hv1
    have Hb := hide' hb1
    clear hv1 hb1 hk1
    generalize (xs ++ [102, 97, 108, 115, 101]).length = m at *
    go_wp2
    go_ret
    exact apEnd_of Hv.out Hb.out Hk.out

/-- '[]byte(s)': the block bears a mark behind its last cell. -/
theorem conv_row (xs : List Int) (hx : ∀ x ∈ xs, Byt x) (hl : xs.length ≤ 1048576) (w : World) : ∃ cap wB cur fr, (convert 9 26 (.string (strOf xs))).run Tryz.prog w = .ok (.slice (some ⟨w.heap.size, 0, none⟩) xs.length cap) wB ∧
    Seg wB (some ⟨w.heap.size, 0, none⟩) xs ∧ Below w.heap.size w wB ∧ wB.heap.size = w.heap.size + 1 ∧ wB.heap[w.heap.size]? = some (.cells cur 5 fr) ∧ fr.2 ≠ 0 := by
  obtain ⟨cap, wB, h1, h2, h3, h4⟩ := conv_back xs hx hl w
  have h1' := h1
  rw [run_bytes_of_string (P := Tryz.prog) w 9 26 5 (strOf xs) Tryz.underlying9 Tryz.underlying26 Tryz.underlying5] at h1
  simp only [Result.ok.injEq] at h1
  obtain ⟨_, hw⟩ := h1
  have hrow : ∃ cur fr, wB.heap[w.heap.size]? = some (.cells cur 5 fr) ∧ fr.2 ≠ 0 := by
    rw [← hw]
    exact ⟨_, _, heap_alloc_new w.drew _, by simp⟩
  obtain ⟨cur, fr, hr, hf⟩ := hrow
  exact ⟨cap, wB, cur, fr, h1', h2.seg.out.1, h3, h4, hr, hf⟩

theorem bts_free {w : World} {B g : Nat} {v : Value} {xs : List Int} {cur : Array Value} {fr : Nat × Nat} (h : Bts w B v xs) (hg : w.heap[g]? = some (.cells cur 5 fr)) (hf : fr.2 ≠ 0) : some g ≠ v.ownBlock := by
  intro e
  obtain ⟨_, _, ⟨rfl, _⟩ | ⟨g', cap, cur', rfl, _, hh, _⟩⟩ := h
  · simp [Value.ownBlock] at e
  · simp only [Value.ownBlock, Option.some.injEq] at e
    subst e
    rw [hg] at hh
    simp only [Option.some.injEq, Obj.cells.injEq] at hh
    obtain ⟨_, _, rfl⟩ := hh
    exact hf rfl

set_option maxHeartbeats 1600000 in
set_option maxRecDepth 100000 in
theorem appendQuoted_any (B : Nat) (a : Option Addr) (c : Nat) (xs ts : List Int) (w : World) (hB : Bts w B (.slice a xs.length c) xs) (hBw : B ≤ w.heap.size) (hl : xs.length ≤ 1000000) (ht : ∀ x ∈ ts, Byt x) (hlt : ts.length ≤ 1000) :
    Calls Tryz.prog 65 #[.slice a xs.length c, .string (strOf ts)] w (ApEnd B (xs ++ quoT ts) w) := by
  have HB := hide' hB
  clear hB
  have hA1 := HB.out.alloc (.cells #[.int .u8 34] 5)
  have hS1 := seg_one w 34 (by unfold Byt; omega)
  have hb0 : Hid (Below B w (w.alloc (.cells #[.int .u8 34] 5))) := (Below.refl _ _).alloc hBw _
  have HT := hide' ht
  have hcb : Hid (∀ wx, ∃ ck wB cur fr, (convert 9 26 (.string (strOf ts))).run Tryz.prog wx = .ok (.slice (some ⟨wx.heap.size, 0, none⟩) ts.length ck) wB ∧ Seg wB (some ⟨wx.heap.size, 0, none⟩) ts ∧ Below wx.heap.size wx wB ∧ wB.heap.size = wx.heap.size + 1 ∧ wB.heap[wx.heap.size]? = some (.cells cur 5 fr) ∧ fr.2 ≠ 0) := fun wx => conv_row ts HT.out (by omega) wx
  have HF : Hid (xs ++ quoT ts = (xs ++ 34 :: escQ (ts.take ts.length)) ++ [34]) := by show _ = _; rw [List.take_length]; simp [quoT]
  generalize hn : ts.length = n at *
  have Hn : Hid (n = ts.length) := hn.symm
  obtain ⟨res, hres⟩ : ∃ res, res = xs ++ quoT ts := ⟨_, rfl⟩
  rw [← hres] at HF
  rw [← hres]
  clear ht hn hres
  go_enter Tryz.func65, Tryz.ntmps65
  go_wp2_with (at_builtin; refine wpList_append_seg rfl (.tmp 7) (.tmp 8) (by rfl) B (.slice a xs.length c) xs [34] (by rfl) hA1 _ 1 1 rfl (by rfl) hS1 (by simp) (by simp; omega) (by simp; omega) ?_; intro v1 w1 hv1 hg1; have hb1 := hide' (hb0.out.grown hg1 (by simp; omega) HB.out.own); have hz1 : B ≤ w1.heap.size := (by have h1 := hb1.out.size; omega); obtain ⟨ck, wB, cur, fr, hcv, hSg, hbB, hzB, hrB, hfr⟩ := hcb.out w1; have HbB := hide' (Below.trans hb1.out (hbB.mono hz1)); have HvB := hide' (hv1.grow hbB); have HkB := hide' ((kept_app (Kept.refl w) hA1 hg1).trans (kept_below hbB)); have HzB := hide' hzB; have HrB := hide' hrB; have HSg := hide' hSg; have Hfr := hide' hfr; clear hg1 hbB hzB hv1 hrB hSg hfr)
  go_loopw [0, 13] (fun y i wr => ∃ k : Nat, k ≤ n ∧ i = .int .i64 k ∧ Hid (Bts wr B y (xs ++ 34 :: escQ (ts.take k))) ∧ Hid (Below B w wr) ∧ Hid (wr.heap[w1.heap.size]? = some (.cells cur 5 fr)) ∧ Hid (Kept w wr)) (fun _ i _ => n - (intOf i).toNat)
  case atStart => exact ⟨0, Nat.zero_le _, rfl, HvB, HbB, HrB, HkB⟩
  case round =>
    obtain ⟨k, hk, rfl, hB, B', hrow, hkp⟩ := hrel
    obtain ⟨ya, yc, rfl, _, _, _, _, kk⟩ := hB.out.shape
    have hz : B ≤ wr.heap.size := by have := B'.out.size; omega
    have hzw : w1.heap.size < wr.heap.size := (Array.getElem?_eq_some_iff.1 hrow.out).1
    have hk2 : (xs ++ 34 :: escQ (ts.take k)).length ≤ 1003000 := by
      have h1 := escQ_len (ts.take k)
      have h2 : (ts.take k).length ≤ ts.length := by simp [List.length_take]; omega
      have := Hn.out
      simp; omega
    have HOwn := hide' hB.out.own
    have hbA : Hid (∀ o : Obj, Below B w (wr.alloc o)) := fun o => B'.out.alloc hz o
    have hrA : Hid (∀ o : Obj, (wr.alloc o).heap[w1.heap.size]? = some (.cells cur 5 fr)) := fun o => (Below.heap_alloc wr o w1.heap.size hzw).trans hrow.out
    obtain ⟨zs, hzs⟩ : ∃ zs, zs = xs ++ 34 :: escQ (ts.take k) := ⟨_, rfl⟩
    rw [← hzs] at hB hk2 HOwn
    have hzl : zs.length = (xs ++ 34 :: escQ (ts.take k)).length := by rw [hzs]
    rw [← hzl]
    have Hne := hide' (bts_free hB.out hrow.out Hfr.out)
    by_cases hlt : k < n
    · have hlt' : (k : Int) < (n : Int) := by omega
      have hlt0 : k < ts.length := by have := Hn.out; omega
      have hst := escQ_step ts k hlt0
      have hcb' : Byt ts[k] := HT.out _ (List.getElem_mem hlt0)
      have HCell : Hid (∀ wx : World, wx.heap[w1.heap.size]? = some (.cells cur 5 fr) → wx.cell? ⟨w1.heap.size, k, none⟩ = some (.int .u8 ts[k])) := fun wx hb => by
        have h := HSg.out.byte hlt0
        rw [Nat.zero_add] at h
        exact (World.cell?_of_block (hb.trans HrB.out.symm)).trans h
      generalize ts[k] = c at *
      have hc := HCell.out wr hrow.out
      by_cases hq : c = 34 ∨ c = 92
      · rw [if_pos hq] at hst
        have HF2 : Hid (xs ++ 34 :: escQ (ts.take (k + 1)) = (zs ++ [92]) ++ [c]) := by show _ = _; rw [hst, hzs]; simp
        have hS92 := seg_one wr 92 (by unfold Byt; omega)
        have hA92 := hB.out.alloc (.cells #[.int .u8 92] 5)
        have hqq : (c == 34) = true ∨ ((c == 34) = false ∧ (c == 92) = true) := by
          rcases hq with rfl | rfl
          · exact .inl rfl
          · exact .inr ⟨rfl, rfl⟩
        have HSc : Hid (∀ wx : World, Seg (wx.alloc (.cells #[.int .u8 c] 5)) (some ⟨wx.heap.size, 0, none⟩) [c]) := fun wx => seg_one wx c hcb'
        clear hst hzs hzl hq hcb hcb'
        have main : True := trivial
        rcases hqq with h34 | ⟨h34, h92⟩
        all_goals
          go_wp2_with (first
            | (at_builtin; refine wpList_append_seg rfl (.tmp 23) (.tmp 24) (by rfl) B (.slice ya zs.length yc) zs [92] (by rfl) hA92 _ 1 1 rfl (by rfl) hS92 (by simp) (by simp; omega) (by simp; omega) ?_; intro v1' w1' hv1' hg1'; have hb1' := hide' ((hbA.out _).grown hg1' (by simp; omega) HOwn.out); have hr1' := hide' ((hg1'.block w1.heap.size (by simp; omega) Hne.out).trans (hrA.out _)); have hz1' : B ≤ w1'.heap.size := (by have h1 := hb1'.out.size; omega); have hzw' : w1.heap.size < w1'.heap.size := (Array.getElem?_eq_some_iff.1 hr1'.out).1; have hSc := HSc.out w1'; have hAc := hv1'.alloc (.cells #[.int .u8 c] 5); have HOwn1 := hide' hv1'.own; have Hne1 := hide' (bts_free hv1' hr1'.out Hfr.out); have hkp1 := hide' (kept_app hkp.out hA92 hg1'); clear hv1' hg1')
            | (at_builtin; refine wpList_append_seg rfl (.tmp 26) (.tmp 28) (by rfl) B v1' (zs ++ [92]) [c] (by rfl) hAc _ 1 1 rfl (by rfl) hSc (by simp) (by simp; omega) (by simp; omega) ?_; intro v2 w2 hv2 hg2; have hb2 := hide' ((hb1'.out.alloc hz1' _).grown hg2 (by simp; omega) HOwn1.out); have hr2 := hide' ((hg2.block w1.heap.size (by simp; omega) Hne1.out).trans ((Below.heap_alloc w1' _ w1.heap.size hzw').trans hr1'.out)); have hkp2 := hide' (kept_app hkp1.out hAc hg2); replace hv2 := hide' hv2; clear hg2))
          go_roundw
          case rel => exact ⟨k + 1, by omega, by go_num, by rw [HF2.out]; exact hv2, hb2, hr2, hkp2⟩
          case measure => simp [intOf]; omega
      · rw [if_neg hq] at hst
        have HF2 : Hid (xs ++ 34 :: escQ (ts.take (k + 1)) = zs ++ [c]) := by show _ = _; rw [hst, hzs]; simp
        have h34 : ¬ c = 34 := fun h => hq (.inl h)
        have h92 : ¬ c = 92 := fun h => hq (.inr h)
        have h34' : (c == 34) = false := by simpa using h34
        have h92' : (c == 92) = false := by simpa using h92
        have hSc := seg_one wr c hcb'
        have hAc := hB.out.alloc (.cells #[.int .u8 c] 5)
        clear hst hzs hzl hcb hcb' hq
        go_wp2_with (at_builtin; refine wpList_append_seg rfl (.tmp 26) (.tmp 28) (by rfl) B (.slice ya zs.length yc) zs [c] (by rfl) hAc _ 1 1 rfl (by rfl) hSc (by simp) (by simp; omega) (by simp; omega) ?_; intro v2 w2 hv2 hg2; have hb2 := hide' ((hbA.out _).grown hg2 (by simp; omega) HOwn.out); have hr2 := hide' ((hg2.block w1.heap.size (by simp; omega) Hne.out).trans (hrA.out _)); have hkp2 := hide' (kept_app hkp.out hAc hg2); replace hv2 := hide' hv2; clear hg2)
        go_roundw
        case rel => exact ⟨k + 1, by omega, by go_num, by rw [HF2.out]; exact hv2, hb2, hr2, hkp2⟩
        case measure => simp [intOf]; omega
    · have hkn : k = ts.length := by have := Hn.out; omega
      have hlt' : ¬ (k : Int) < (n : Int) := by omega
      have HF2 : Hid (res = zs ++ [34]) := by show _ = _; rw [HF.out, hzs, Hn.out, hkn]
      have hS34 := seg_one wr 34 (by unfold Byt; omega)
      have hA34 := hB.out.alloc (.cells #[.int .u8 34] 5)
      clear hkn hzs hzl hcb
      go_wp2_with (at_builtin; refine wpList_append_seg rfl _ _ (by rfl) B (.slice ya zs.length yc) zs [34] (by rfl) hA34 _ 1 1 rfl (by rfl) hS34 (by simp) (by simp; omega) (by simp; omega) ?_; intro v2 w2 hv2 hg2; have hb2 := hide' ((hbA.out _).grown hg2 (by simp; omega) HOwn.out); have hkp2 := hide' (kept_app hkp.out hA34 hg2); replace hv2 := hide' hv2; clear hg2)
      go_ret
      rw [HF2.out]
      exact apEnd_of hv2.out hb2.out hkp2.out
end Go.Proofs.YtndnidmeompieaaGreatDoor
/-
  A slice of parts, read place by place; no statement is proved here.
-/
namespace Go.Proofs.YtndnidmeompieaaGreatDoor
open Go.RowKit
set_option linter.unusedVariables false

theorem PLSeg.at {R : Nat → Prop} {w : World} {d : Nat} {a : Option Addr} {n cap : Nat} {l : List (Vl d)} (h : PLSeg R w d (.slice a n cap) l) {k : Nat} (hk : k < l.length) : ∃ b off t x, a = some ⟨b, off, none⟩ ∧ R b ∧ w.cell? ⟨b, off + k, none⟩ = some (.iface t x) ∧ PSeg R w d (.iface t x) (l[k]) := by
  obtain ⟨a', cap', e, hc⟩ := h
  simp only [Value.slice.injEq] at e
  obtain ⟨rfl, _, _⟩ := e
  rcases hc with h0 | ⟨b, off, rfl, hR, hc⟩
  · rw [h0] at hk; simp at hk
  · obtain ⟨u, hu, hv⟩ := hc k hk
    obtain ⟨t, x, rfl⟩ := hv.shape
    exact ⟨b, off, t, x, rfl, hR, hu, hv⟩

theorem PLSeg.grow {w w' : World} {d : Nat} {x : Value} {l : List (Vl d)} (h : PLSeg (fun b => b < w.heap.size) w d x l) (hb : Below w.heap.size w w') : PLSeg (fun b => b < w.heap.size) w' d x l := by
  obtain ⟨a, cap, e, hc⟩ := h
  refine ⟨a, cap, e, ?_⟩
  rcases hc with h0 | ⟨b, off, e1, hR, hc⟩
  · exact .inl h0
  · refine .inr ⟨b, off, e1, hR, fun i hi => ?_⟩
    obtain ⟨u, hu, hv⟩ := hc i hi
    exact ⟨u, (cell_agree (agree_below hb) hR).trans hu, PSeg.carry (fun b hb => hb) (agree_below hb) d hv⟩
end Go.Proofs.YtndnidmeompieaaGreatDoor
/-
  ValText of the program: appendPart of parts without parts, of lists.
-/
namespace Go.Proofs.YtndnidmeompieaaGreatDoor
open Go.RowKit Go.Shelf
set_option linter.unusedVariables false
set_option linter.unusedSimpArgs false

/-- The contract of appendPart at depth d. -/
def PSayAt (d : Nat) : Prop := ∀ (N B : Nat) (a : Option Addr) (c : Nat) (xs : List Int) (p : Value) (v : Vl d) (deep : Nat) (w : World), PSeg (fun b => b < N) w d p v → N ≤ B → B ≤ w.heap.size → Bts w B (.slice a xs.length c) xs → goodB d v deep = true → partsV d v ≤ 40 → xs.length + 60 * partsV d v ≤ 900000 → Tab B w →
  Calls Tryz.prog 49 #[.slice a xs.length c, p] w (ApEnd B (xs ++ sayV d v) w)

set_option maxHeartbeats 1600000 in
set_option maxRecDepth 100000 in
theorem appendPart_null (B : Nat) (a : Option Addr) (c : Nat) (xs : List Int) (w : World) (hB : Bts w B (.slice a xs.length c) xs) (hBw : B ≤ w.heap.size) (hl : xs.length ≤ 900000) :
    Calls Tryz.prog 49 #[.slice a xs.length c, .iface 99 (.agg #[])] w (ApEnd B (xs ++ [110, 117, 108, 108]) w) := by
  have t1 := is_nullPart (.agg #[])
  have HB : Hid (∀ o : Obj, Bts (w.alloc o) B (.slice a xs.length c) xs) := fun o => hB.alloc o
  have hbA : Hid (∀ o : Obj, Below B w (w.alloc o)) := fun o => (Below.refl _ _).alloc hBw o
  have hbB : Hid (∀ o : Obj, B ≤ (w.alloc o).heap.size) := fun o => by have := (hbA.out o).size; omega
  have HOwn := hide' hB.own
  clear hB
  go_enter Tryz.func49, Tryz.ntmps49
  go_wp2_with (at_builtin; refine wpList_append_text rfl _ (.const (.string { data := #[110, 117, 108, 108] })) 9 (by rfl) Tryz.underlying9 B (.slice a xs.length c) xs [110, 117, 108, 108] (by rfl) (HB.out _) _ (by rfl) (by simp [Byt]) (by rfl) (by (try simp); omega) (hbB.out _) ?_; intro v1 w1 hv1 hg1; have hb1 := hide' ((hbA.out _).grown hg1 (hbB.out _) HOwn.out); have hk1 := hide' (kept_app (Kept.refl w) (HB.out _) hg1); replace hv1 := hide' hv1; clear hg1)
  go_ret
  exact apEnd_of hv1.out hb1.out hk1.out

set_option maxHeartbeats 1600000 in
set_option maxRecDepth 100000 in
theorem appendPart_false (B : Nat) (a : Option Addr) (c : Nat) (xs : List Int) (w : World) (hB : Bts w B (.slice a xs.length c) xs) (hBw : B ≤ w.heap.size) (hl : xs.length ≤ 900000) :
    Calls Tryz.prog 49 #[.slice a xs.length c, .iface 101 (.agg #[.int .i64 0])] w (ApEnd B (xs ++ [102, 97, 108, 115, 101]) w) := by
  have t1 := nonull_boolPart (.agg #[.int .i64 0])
  have t2 := is_boolPart (.agg #[.int .i64 0])
  have HB : Hid (∀ o : Obj, Bts (w.alloc o) B (.slice a xs.length c) xs) := fun o => hB.alloc o
  have hbA : Hid (∀ o : Obj, Below B w (w.alloc o)) := fun o => (Below.refl _ _).alloc hBw o
  have hbB : Hid (∀ o : Obj, B ≤ (w.alloc o).heap.size) := fun o => by have := (hbA.out o).size; omega
  have HOwn := hide' hB.own
  have HC : Hid (∀ o : Obj, Calls Tryz.prog 64 #[.slice a xs.length c, .bool false] (w.alloc o) (ApEnd B (xs ++ [102, 97, 108, 115, 101]) (w.alloc o))) := fun o => AppendBool_any B false a c xs (w.alloc o) (HB.out o) (hbB.out o) (by omega)
  obtain ⟨ys, hys⟩ : ∃ ys, ys = xs ++ [102, 97, 108, 115, 101] := ⟨_, rfl⟩
  rw [← hys] at HC
  rw [← hys]
  clear hB hys
  go_enter Tryz.func49, Tryz.ntmps49
  go_wp2_with fail
  refine (HC.out _).mono ?_
  rintro e w1 ⟨a1, c1, rfl, hv1, hb1, hk1⟩
  have Hv := hide' hv1
  have Hk := hide' ((kept_alloc _ _).trans hk1)
  have Hb := hide' ((hbA.out _).trans hb1)
  clear hv1 hb1 HC hk1
  generalize ys.length = m at *
  go_wp2
  go_ret
  exact apEnd_of Hv.out Hb.out Hk.out

set_option maxHeartbeats 1600000 in
set_option maxRecDepth 100000 in
theorem appendPart_true (B : Nat) (a : Option Addr) (c : Nat) (xs : List Int) (w : World) (hB : Bts w B (.slice a xs.length c) xs) (hBw : B ≤ w.heap.size) (hl : xs.length ≤ 900000) :
    Calls Tryz.prog 49 #[.slice a xs.length c, .iface 101 (.agg #[.int .i64 1])] w (ApEnd B (xs ++ [116, 114, 117, 101]) w) := by
  have t1 := nonull_boolPart (.agg #[.int .i64 1])
  have t2 := is_boolPart (.agg #[.int .i64 1])
  have HB : Hid (∀ o : Obj, Bts (w.alloc o) B (.slice a xs.length c) xs) := fun o => hB.alloc o
  have hbA : Hid (∀ o : Obj, Below B w (w.alloc o)) := fun o => (Below.refl _ _).alloc hBw o
  have hbB : Hid (∀ o : Obj, B ≤ (w.alloc o).heap.size) := fun o => by have := (hbA.out o).size; omega
  have HOwn := hide' hB.own
  have HC : Hid (∀ o : Obj, Calls Tryz.prog 64 #[.slice a xs.length c, .bool true] (w.alloc o) (ApEnd B (xs ++ [116, 114, 117, 101]) (w.alloc o))) := fun o => AppendBool_any B true a c xs (w.alloc o) (HB.out o) (hbB.out o) (by omega)
  obtain ⟨ys, hys⟩ : ∃ ys, ys = xs ++ [116, 114, 117, 101] := ⟨_, rfl⟩
  rw [← hys] at HC
  rw [← hys]
  clear hB hys
  go_enter Tryz.func49, Tryz.ntmps49
  go_wp2_with fail
  refine (HC.out _).mono ?_
  rintro e w1 ⟨a1, c1, rfl, hv1, hb1, hk1⟩
  have Hv := hide' hv1
  have Hk := hide' ((kept_alloc _ _).trans hk1)
  have Hb := hide' ((hbA.out _).trans hb1)
  clear hv1 hb1 HC hk1
  generalize ys.length = m at *
  go_wp2
  go_ret
  exact apEnd_of Hv.out Hb.out Hk.out

set_option maxHeartbeats 1600000 in
set_option maxRecDepth 100000 in
theorem appendPart_int (vn : Int) (B : Nat) (a : Option Addr) (c : Nat) (xs : List Int) (w : World) (hB : Bts w B (.slice a xs.length c) xs) (hBw : B ≤ w.heap.size) (hl : xs.length ≤ 900000) (h0 : -1000000000000 ≤ vn) (h1 : vn ≤ 1000000000000) (ht : Tab B w) :
    Calls Tryz.prog 49 #[.slice a xs.length c, .iface 103 (.agg #[.int .i64 vn])] w (ApEnd B (xs ++ intT vn) w) := by
  have t1 := nonull_intPart (.agg #[.int .i64 vn])
  have t2 := nobool_intPart (.agg #[.int .i64 vn])
  have t3 := is_intPart (.agg #[.int .i64 vn])
  have HB : Hid (∀ o : Obj, Bts (w.alloc o) B (.slice a xs.length c) xs) := fun o => hB.alloc o
  have hbA : Hid (∀ o : Obj, Below B w (w.alloc o)) := fun o => (Below.refl _ _).alloc hBw o
  have hbB : Hid (∀ o : Obj, B ≤ (w.alloc o).heap.size) := fun o => by have := (hbA.out o).size; omega
  have HOwn := hide' hB.own
  have HC : Hid (∀ o : Obj, Calls Tryz.prog 22 #[.slice a xs.length c, .int .i64 vn, .int .i64 10] (w.alloc o) (ApEnd B (xs ++ intT vn) (w.alloc o))) := fun o => AppendInt_any B vn (.slice a xs.length c) xs (w.alloc o) h0 h1 (HB.out o) (hbB.out o) (by omega) (Lib.TabBelow.on ht (hbA.out o))
  clear ht
  obtain ⟨ys, hys⟩ : ∃ ys, ys = xs ++ intT vn := ⟨_, rfl⟩
  rw [← hys] at HC
  rw [← hys]
  clear hB hys
  go_enter Tryz.func49, Tryz.ntmps49
  go_wp2_with fail
  refine (HC.out _).mono ?_
  rintro e w1 ⟨a1, c1, rfl, hv1, hb1, hk1⟩
  have Hv := hide' hv1
  have Hk := hide' ((kept_alloc _ _).trans hk1)
  have Hb := hide' ((hbA.out _).trans hb1)
  clear hv1 hb1 HC hk1
  generalize ys.length = m at *
  go_wp2
  go_ret
  exact apEnd_of Hv.out Hb.out Hk.out

set_option maxHeartbeats 1600000 in
set_option maxRecDepth 100000 in
theorem appendPart_text (sx : ByteArray) (ts : List Int) (B : Nat) (a : Option Addr) (c : Nat) (xs : List Int) (w : World) (hB : Bts w B (.slice a xs.length c) xs) (hBw : B ≤ w.heap.size) (hl : xs.length ≤ 900000) (hsx : sx = strOf ts) (hts : ∀ x ∈ ts, Byt x) (hlt : ts.length ≤ 1000) :
    Calls Tryz.prog 49 #[.slice a xs.length c, .iface 105 (.agg #[.string sx])] w (ApEnd B (xs ++ quoT ts) w) := by
  have t1 := nonull_textPart (.agg #[.string sx])
  have t2 := nobool_textPart (.agg #[.string sx])
  have t3 := noint_textPart (.agg #[.string sx])
  have t4 := is_textPart (.agg #[.string sx])
  have HB : Hid (∀ o : Obj, Bts (w.alloc o) B (.slice a xs.length c) xs) := fun o => hB.alloc o
  have hbA : Hid (∀ o : Obj, Below B w (w.alloc o)) := fun o => (Below.refl _ _).alloc hBw o
  have hbB : Hid (∀ o : Obj, B ≤ (w.alloc o).heap.size) := fun o => by have := (hbA.out o).size; omega
  have HOwn := hide' hB.own
  have HC : Hid (∀ o : Obj, Calls Tryz.prog 65 #[.slice a xs.length c, .string sx] (w.alloc o) (ApEnd B (xs ++ quoT ts) (w.alloc o))) := fun o => by rw [hsx]; exact appendQuoted_any B a c xs ts (w.alloc o) (HB.out o) (hbB.out o) (by omega) hts hlt
  clear hsx hts
  obtain ⟨ys, hys⟩ : ∃ ys, ys = xs ++ quoT ts := ⟨_, rfl⟩
  rw [← hys] at HC
  rw [← hys]
  clear hB hys
  go_enter Tryz.func49, Tryz.ntmps49
  go_wp2_with fail
  refine (HC.out _).mono ?_
  rintro e w1 ⟨a1, c1, rfl, hv1, hb1, hk1⟩
  have Hv := hide' hv1
  have Hk := hide' ((kept_alloc _ _).trans hk1)
  have Hb := hide' ((hbA.out _).trans hb1)
  clear hv1 hb1 HC hk1
  generalize ys.length = m at *
  go_wp2
  go_ret
  exact apEnd_of Hv.out Hb.out Hk.out

set_option maxHeartbeats 1600000 in
set_option maxRecDepth 100000 in
theorem appendPart_unknown (B : Nat) (a : Option Addr) (c : Nat) (xs : List Int) (w : World) (hB : Bts w B (.slice a xs.length c) xs) (hBw : B ≤ w.heap.size) (hl : xs.length ≤ 900000) :
    Calls Tryz.prog 49 #[.slice a xs.length c, .iface 116 (.agg #[])] w (ApEnd B (xs ++ [63]) w) := by
  have t1 := nonull_unknownPart (.agg #[])
  have t2 := nobool_unknownPart (.agg #[])
  have t3 := noint_unknownPart (.agg #[])
  have t4 := notext_unknownPart (.agg #[])
  have t5 := nolist_unknownPart (.agg #[])
  have t6 := nomap_unknownPart (.agg #[])
  have t7 := is_unknownPart (.agg #[])
  have HB : Hid (∀ o : Obj, Bts (w.alloc o) B (.slice a xs.length c) xs) := fun o => hB.alloc o
  have hbA : Hid (∀ o : Obj, Below B w (w.alloc o)) := fun o => (Below.refl _ _).alloc hBw o
  have hbB : Hid (∀ o : Obj, B ≤ (w.alloc o).heap.size) := fun o => by have := (hbA.out o).size; omega
  have HOwn := hide' hB.own
  have hS1 : Hid (∀ o : Obj, Seg ((w.alloc o).alloc (.cells #[.int .u8 63] 5)) (some ⟨w.heap.size + 1, 0, none⟩) [63]) := fun o => by
    have h := seg_one (w.alloc o) 63 (by unfold Byt; omega)
    simp only [World.size_alloc] at h
    exact h
  have hA1 : Hid (∀ o o' : Obj, Bts ((w.alloc o).alloc o') B (.slice a xs.length c) xs) := fun o o' => (hB.alloc o).alloc o'
  have hbC : Hid (∀ o o' : Obj, Below B w ((w.alloc o).alloc o')) := fun o o' => (hbA.out o).alloc (hbB.out o) o'
  clear hB
  go_enter Tryz.func49, Tryz.ntmps49
  go_wp2_with (at_builtin; refine wpList_append_seg rfl _ _ (by rfl) B (.slice a xs.length c) xs [63] (by rfl) (hA1.out _ _) _ 1 1 rfl (by rfl) (hS1.out _) (by simp) (by simp; omega) (by simp; omega) ?_; intro v1 w1 hv1 hg1; have hb1 := hide' ((hbC.out _ _).grown hg1 (by simp; omega) HOwn.out); have hk1 := hide' (kept_app2 (Kept.refl w) (hA1.out _ _) hg1); replace hv1 := hide' hv1; clear hg1)
  go_ret
  exact apEnd_of hv1.out hb1.out hk1.out
end Go.Proofs.YtndnidmeompieaaGreatDoor
