/-
  Texts that a law leans on, one behind the other; no statement is proved here.
-/
import Derived.Test.YteeplidoojeddaaGreatDoorPk8
import Derived.Test.YteeplidoojeddaaGreatDoorPk1
import Derived.Test.YteeplidoojeddaaGreatDoorPk10
import Derived.Test.YteeplidoojeddaaGreatDoorPk14
import Derived.Test.YteeplidoojeddaaGreatDoorPk6
import Derived.Test.YteeplidoojeddaaGreatDoorPk0
import Derived.Maps.AppendAt
import Derived.Sort.KeysCollected
/-
  The kind of a part: a method of an interface value, by the value's own type.
-/
namespace Go.Proofs.YteeplidoojeddaaGreatDoor
open Go.RowKit Go.Shelf
set_option linter.unusedVariables false
set_option linter.unusedSimpArgs false

theorem meth_nullPart (x : Value) (w : World) : (method 330 122 x "loop.example/g00407/impl.kind").run Tryz.prog w = .ok (186, x) w := by kernel_rfl
theorem calls_nullPart (args : Array Value) (w : World) : (callFunc 186 args).run Tryz.prog w = .ok (.enter 186 args) w := enters_of Tryz.func186 (by kernel_rfl) rfl args w
theorem meth_unknownPart (x : Value) (w : World) : (method 330 123 x "loop.example/g00407/impl.kind").run Tryz.prog w = .ok (187, x) w := by kernel_rfl
theorem calls_unknownPart (args : Array Value) (w : World) : (callFunc 187 args).run Tryz.prog w = .ok (.enter 187 args) w := enters_of Tryz.func187 (by kernel_rfl) rfl args w
theorem meth_boolPart (x : Value) (w : World) : (method 330 95 x "loop.example/g00407/impl.kind").run Tryz.prog w = .ok (182, x) w := by kernel_rfl
theorem calls_boolPart (args : Array Value) (w : World) : (callFunc 182 args).run Tryz.prog w = .ok (.enter 182 args) w := enters_of Tryz.func182 (by kernel_rfl) rfl args w
theorem meth_intPart (x : Value) (w : World) : (method 330 96 x "loop.example/g00407/impl.kind").run Tryz.prog w = .ok (183, x) w := by kernel_rfl
theorem calls_intPart (args : Array Value) (w : World) : (callFunc 183 args).run Tryz.prog w = .ok (.enter 183 args) w := enters_of Tryz.func183 (by kernel_rfl) rfl args w
theorem meth_textPart (x : Value) (w : World) : (method 330 98 x "loop.example/g00407/impl.kind").run Tryz.prog w = .ok (184, x) w := by kernel_rfl
theorem calls_textPart (args : Array Value) (w : World) : (callFunc 184 args).run Tryz.prog w = .ok (.enter 184 args) w := enters_of Tryz.func184 (by kernel_rfl) rfl args w
theorem meth_listPart (x : Value) (w : World) : (method 330 101 x "loop.example/g00407/impl.kind").run Tryz.prog w = .ok (185, x) w := by kernel_rfl
theorem calls_listPart (args : Array Value) (w : World) : (callFunc 185 args).run Tryz.prog w = .ok (.enter 185 args) w := enters_of Tryz.func185 (by kernel_rfl) rfl args w
theorem meth_mapPart (x : Value) (w : World) : (method 330 52 x "loop.example/g00407/impl.kind").run Tryz.prog w = .ok (180, x) w := by kernel_rfl
theorem calls_mapPart (args : Array Value) (w : World) : (callFunc 180 args).run Tryz.prog w = .ok (.enter 180 args) w := enters_of Tryz.func180 (by kernel_rfl) rfl args w

set_option maxHeartbeats 800000 in
theorem kind_nullPart (w : World) : Calls Tryz.prog 186 #[.agg #[]] w fun e w' => e = .returned (.int .i64 0) ∧ Below w.heap.size w w' := by
  have Hb : Hid (∀ o : Obj, Below w.heap.size w (w.alloc o)) := fun o => (Below.refl _ _).alloc (Nat.le_refl _) o
  go_enter Tryz.func186, Tryz.ntmps186
  go_wp2
  go_ret
  exact ⟨rfl, Hb.out _⟩
set_option maxHeartbeats 800000 in
theorem kind_unknownPart (w : World) : Calls Tryz.prog 187 #[.agg #[]] w fun e w' => e = .returned (.int .i64 6) ∧ Below w.heap.size w w' := by
  have Hb : Hid (∀ o : Obj, Below w.heap.size w (w.alloc o)) := fun o => (Below.refl _ _).alloc (Nat.le_refl _) o
  go_enter Tryz.func187, Tryz.ntmps187
  go_wp2
  go_ret
  exact ⟨rfl, Hb.out _⟩
set_option maxHeartbeats 800000 in
theorem kind_boolPart (n : Int) (w : World) : Calls Tryz.prog 182 #[.agg #[.int .i64 n]] w fun e w' => e = .returned (.int .i64 1) ∧ Below w.heap.size w w' := by
  have Hb : Hid (∀ o : Obj, Below w.heap.size w (w.alloc o)) := fun o => (Below.refl _ _).alloc (Nat.le_refl _) o
  go_enter Tryz.func182, Tryz.ntmps182
  go_wp2
  go_ret
  exact ⟨rfl, Hb.out _⟩
set_option maxHeartbeats 800000 in
theorem kind_intPart (n : Int) (w : World) : Calls Tryz.prog 183 #[.agg #[.int .i64 n]] w fun e w' => e = .returned (.int .i64 2) ∧ Below w.heap.size w w' := by
  have Hb : Hid (∀ o : Obj, Below w.heap.size w (w.alloc o)) := fun o => (Below.refl _ _).alloc (Nat.le_refl _) o
  go_enter Tryz.func183, Tryz.ntmps183
  go_wp2
  go_ret
  exact ⟨rfl, Hb.out _⟩
set_option maxHeartbeats 800000 in
theorem kind_textPart (s : ByteArray) (w : World) : Calls Tryz.prog 184 #[.agg #[.string s]] w fun e w' => e = .returned (.int .i64 3) ∧ Below w.heap.size w w' := by
  have Hb : Hid (∀ o : Obj, Below w.heap.size w (w.alloc o)) := fun o => (Below.refl _ _).alloc (Nat.le_refl _) o
  go_enter Tryz.func184, Tryz.ntmps184
  go_wp2
  go_ret
  exact ⟨rfl, Hb.out _⟩
set_option maxHeartbeats 800000 in
theorem kind_listPart (a : Option Addr) (n c : Nat) (w : World) : Calls Tryz.prog 185 #[.agg #[.slice a n c]] w fun e w' => e = .returned (.int .i64 4) ∧ Below w.heap.size w w' := by
  have Hb : Hid (∀ o : Obj, Below w.heap.size w (w.alloc o)) := fun o => (Below.refl _ _).alloc (Nat.le_refl _) o
  go_enter Tryz.func185, Tryz.ntmps185
  go_wp2
  go_ret
  exact ⟨rfl, Hb.out _⟩
set_option maxHeartbeats 800000 in
theorem kind_mapPart (b : Nat) (w : World) : Calls Tryz.prog 180 #[.agg #[.map (some b)]] w fun e w' => e = .returned (.int .i64 5) ∧ Below w.heap.size w w' := by
  have Hb : Hid (∀ o : Obj, Below w.heap.size w (w.alloc o)) := fun o => (Below.refl _ _).alloc (Nat.le_refl _) o
  go_enter Tryz.func180, Tryz.ntmps180
  go_wp2
  go_ret
  exact ⟨rfl, Hb.out _⟩

/-- What a call of kind leans on. -/
def KindOf (pt : TypeId) (px : Value) (vk : Int) : Prop := ∃ f : Nat, (∀ w, (method 330 pt px "loop.example/g00407/impl.kind").run Tryz.prog w = .ok (f, px) w) ∧ (∀ args w, (callFunc f args).run Tryz.prog w = .ok (.enter f args) w) ∧ ∀ w, Calls Tryz.prog f #[px] w fun e w' => e = .returned (.int .i64 vk) ∧ Below w.heap.size w w'

theorem kind_of {R : Nat → Prop} {w : World} {d : Nat} {pt : TypeId} {px : Value} {v : Vl (d + 1)} (h : PSeg R w (d + 1) (.iface pt px) v) : KindOf pt px v.1 := by
  rcases h with ⟨hk, e⟩ | ⟨hk, e⟩ | ⟨hk, e⟩ | ⟨hk, e⟩ | ⟨hk, e⟩ | ⟨hk, a, cap, e, _⟩ | ⟨hk, b, ps, e, _⟩ <;>
    simp only [Value.iface.injEq] at e <;> obtain ⟨rfl, rfl⟩ := e <;> rw [hk]
  · exact ⟨_, meth_nullPart _, calls_nullPart, kind_nullPart⟩
  · exact ⟨_, meth_unknownPart _, calls_unknownPart, kind_unknownPart⟩
  · exact ⟨_, meth_boolPart _, calls_boolPart, kind_boolPart _⟩
  · exact ⟨_, meth_intPart _, calls_intPart, kind_intPart _⟩
  · exact ⟨_, meth_textPart _, calls_textPart, kind_textPart _⟩
  · exact ⟨_, meth_listPart _, calls_listPart, kind_listPart _ _ _⟩
  · exact ⟨_, meth_mapPart _, calls_mapPart, kind_mapPart _⟩
end Go.Proofs.YteeplidoojeddaaGreatDoor
/-
  headOk, sideOf of the program.
-/
namespace Go.Proofs.YteeplidoojeddaaGreatDoor
open Go.RowKit Go.Shelf
set_option linter.unusedVariables false
set_option linter.unusedSimpArgs false

set_option maxHeartbeats 6400000 in
set_option maxRecDepth 100000 in
theorem headOk_any (d N : Nat) (cs : List Value) (it : Rcd d) (w : World) (h : RSg (fun b => b < N) w d cs it) (hN : N ≤ w.heap.size) (hz : it.2.1.length ≤ 1048576) (hEr : Errs w) :
    Calls Tryz.prog 37 #[.agg cs.toArray] w fun e w' => e = .returned (.bool (headE it.1 it.2.1 it.2.2.1)) ∧ Below w.heap.size w w' := by
  obtain ⟨na, np, bk, bn, a2, l2, p2, a3, l3, p3, a4, l4, p4, xa, xp, rfl, ht, _, _⟩ := h.form
  obtain ⟨kk, ad, jj, vv, ds⟩ := it
  simp only at ht hz ⊢
  obtain ⟨na', np', e1, hsa, hac, hac2, hna, hral⟩ := ht
  simp only [Value.slice.injEq, true_and] at e1
  obtain ⟨rfl, rfl⟩ := e1
  have HA1 : Hid (∀ o : Obj, Below w.heap.size w (w.alloc o)) := fun o => (Below.refl _ _).alloc (Nat.le_refl _) o
  have Hbox : Hid (∀ o wx, Below (w.alloc o).heap.size (w.alloc o) wx → wx.heap[w.heap.size]? = some o) := fun o wx h => box_row h
  have HAd : Hid (∀ o : Obj, Calls Tryz.prog 50 #[.slice na ad.length np] (w.alloc o) fun e w' => e = .returned (.bool (addrB ad)) ∧ Below (w.alloc o).heap.size (w.alloc o) w') := fun o => impl_AddrOk_any na np ad (w.alloc o) (hsa.grow (HA1.out o)) (by omega) hac hac2 hna (hEr.grow (HA1.out o))
  have HHa := hide' (hasAddr_any kk)
  have HAc := hide' (actOk_any jj)
  have HEv : Hid (headE kk ad jj = ((if 1 ≤ kk ∧ kk ≤ 4 then addrB ad else decide (ad.length = 0)) && (if kk = 1 then decide (1 ≤ jj) && decide (jj ≤ 4) else decide (jj = 0)))) := rfl
  generalize headE kk ad jj = ans at *
  unfold maxLen at hac2
  clear h hsa hral hEr
  generalize ds.length = dl at *
  by_cases h1 : kk = 1
  · subst h1
    have e2 : (decide ((1 : Int) ≤ 1) && decide ((1 : Int) ≤ 4)) = true := by decide
    rw [e2] at HHa
    have HE2 : Hid (ans = (addrB ad && (decide (1 ≤ jj) && decide (jj ≤ 4)))) := by show _ = _; rw [HEv.out]; simp
    generalize (decide (1 ≤ jj) && decide (jj ≤ 4)) = jb at *
    generalize addrB ad = ab at *
    generalize ad.length = al at *
    clear HEv e2
    go_enter Tryz.func37, Tryz.ntmps37
    go_wp2_with fail
    refine (HHa.out _).mono ?_
    rintro e w1 ⟨rfl, rfl⟩
    go_wp2_with fail
    refine (HAd.out _).mono ?_
    rintro e w2 ⟨rfl, b2⟩
    obtain ⟨f0, f1, f2, f3, f4, f5, f6, f7, f8⟩ := ev_row (Hbox.out _ _ b2)
    have B2 := hide' (Below.on (HA1.out _) b2)
    clear b2
    go_wp2_with fail
    refine (HAc.out _).mono ?_
    rintro e w3 ⟨rfl, rfl⟩
    cases ab with
    | false =>
      have HF : Hid (ans = false) := HE2.out
      go_wp2
      go_ret
      exact ⟨ret_bool HF.out.symm, B2.out⟩
    | true =>
      have HF : Hid (ans = jb) := by show _ = _; rw [HE2.out]; rfl
      go_wp2
      go_ret
      exact ⟨ret_bool HF.out.symm, B2.out⟩
  have h1' : (kk == 1) = false := by simpa using h1
  by_cases hh : 1 ≤ kk ∧ kk ≤ 4
  · have e2 : (decide (1 ≤ kk) && decide (kk ≤ 4)) = true := by simp [hh.1, hh.2]
    rw [e2] at HHa
    have HE2 : Hid (ans = (addrB ad && decide (jj = 0))) := by show _ = _; rw [HEv.out, if_pos hh, if_neg h1]
    generalize addrB ad = ab at *
    generalize ad.length = al at *
    clear HEv e2
    by_cases hj : jj = 0
    · subst hj
      go_enter Tryz.func37, Tryz.ntmps37
      go_wp2_with fail
      refine (HHa.out _).mono ?_
      rintro e w1 ⟨rfl, rfl⟩
      go_wp2_with fail
      refine (HAd.out _).mono ?_
      rintro e w2 ⟨rfl, b2⟩
      obtain ⟨f0, f1, f2, f3, f4, f5, f6, f7, f8⟩ := ev_row (Hbox.out _ _ b2)
      have B2 := hide' (Below.on (HA1.out _) b2)
      clear b2
      have HF : Hid (ans = ab) := by show _ = _; rw [HE2.out]; simp
      cases ab with
      | false =>
        go_wp2
        go_ret
        exact ⟨ret_bool HF.out.symm, B2.out⟩
      | true =>
        go_wp2
        go_ret
        exact ⟨ret_bool HF.out.symm, B2.out⟩
    · have hj' : (jj == 0) = false := by simpa using hj
      have HF : Hid (ans = false) := by show _ = _; rw [HE2.out, decide_eq_false hj]; simp
      go_enter Tryz.func37, Tryz.ntmps37
      go_wp2_with fail
      refine (HHa.out _).mono ?_
      rintro e w1 ⟨rfl, rfl⟩
      go_wp2_with fail
      refine (HAd.out _).mono ?_
      rintro e w2 ⟨rfl, b2⟩
      obtain ⟨f0, f1, f2, f3, f4, f5, f6, f7, f8⟩ := ev_row (Hbox.out _ _ b2)
      have B2 := hide' (Below.on (HA1.out _) b2)
      clear b2
      cases ab with
      | false =>
        go_wp2
        go_ret
        exact ⟨ret_bool HF.out.symm, B2.out⟩
      | true =>
        go_wp2
        go_ret
        exact ⟨ret_bool HF.out.symm, B2.out⟩
  · have e2 : (decide (1 ≤ kk) && decide (kk ≤ 4)) = false := by
      cases hc : (decide (1 ≤ kk) && decide (kk ≤ 4)) with
      | false => rfl
      | true =>
        simp only [Bool.and_eq_true, decide_eq_true_eq] at hc
        exact absurd hc hh
    rw [e2] at HHa
    have HE2 : Hid (ans = (decide (ad.length = 0) && decide (jj = 0))) := by show _ = _; rw [HEv.out, if_neg hh, if_neg h1]
    generalize ad.length = al at *
    clear HEv e2 HAd
    by_cases ha : al = 0
    · subst ha
      by_cases hj : jj = 0
      · subst hj
        have HF : Hid (ans = true) := HE2.out
        go_enter Tryz.func37, Tryz.ntmps37
        go_wp2_with fail
        refine (HHa.out _).mono ?_
        rintro e w1 ⟨rfl, rfl⟩
        go_wp2
        go_ret
        exact ⟨ret_bool HF.out.symm, HA1.out _⟩
      · have hj' : (jj == 0) = false := by simpa using hj
        have HF : Hid (ans = false) := by show _ = _; rw [HE2.out, decide_eq_false hj]; simp
        go_enter Tryz.func37, Tryz.ntmps37
        go_wp2_with fail
        refine (HHa.out _).mono ?_
        rintro e w1 ⟨rfl, rfl⟩
        go_wp2
        go_ret
        exact ⟨ret_bool HF.out.symm, HA1.out _⟩
    · have ha' : ((al : Int) == 0) = false := by simp; omega
      have HF : Hid (ans = false) := by show _ = _; rw [HE2.out, decide_eq_false ha]; rfl
      go_enter Tryz.func37, Tryz.ntmps37
      go_wp2_with fail
      refine (HHa.out _).mono ?_
      rintro e w1 ⟨rfl, rfl⟩
      go_wp2
      go_ret
      exact ⟨ret_bool HF.out.symm, HA1.out _⟩

set_option maxHeartbeats 1600000 in
set_option maxRecDepth 100000 in
theorem sideOf_any (d N : Nat) (c0 c1 c2 c3 c4 : Value) (v : Vl d) (w : World) (hv : VSeg (fun b => b < N) w d (c0, c1, c2, c3, c4) v) (hN : N ≤ w.heap.size) :
    Calls Tryz.prog 38 #[.bool false, .agg #[c0, c1, c2, c3, c4]] w fun e w' => (e = .returned (.tuple #[.nilIface, .bool (okB d v && decide (kindV d v = 0))])) ∧ Below w.heap.size w w' := by
  have HA1 : Hid (∀ o : Obj, Below w.heap.size w (w.alloc o)) := fun o => (Below.refl _ _).alloc (Nat.le_refl _) o
  have HP : Hid (∀ o : Obj, Calls Tryz.prog 52 #[.agg #[c0, c1, c2, c3, c4]] (w.alloc o) (PartEnd d v (w.alloc o))) := fun o => partOf_any d N c0 c1 c2 c3 c4 v _ (VSeg.agree (agree_below ((HA1.out o).mono hN)) d hv) (by have := (HA1.out o).size; omega)
  clear hv
  generalize hans : (okB d v && decide (kindV d v = 0)) = ans
  have HAn := hide' hans.symm
  clear hans
  go_enter Tryz.func38, Tryz.ntmps38
  go_wp2_with fail
  refine (HP.out _).mono ?_
  rintro e w1 ⟨b1, ⟨p, rfl, hok, hp⟩ | ⟨rfl, hno⟩⟩
  · have B1 := hide' (Below.on (HA1.out _) b1)
    cases d with
    | zero => exact hp.elim
    | succ d =>
      obtain ⟨pt, px, rfl⟩ := hp.shape
      obtain ⟨f, hm, hcf, hkind⟩ := kind_of hp
      have HF : Hid (ans = decide (v.1 = 0)) := by show _ = _; rw [HAn.out, hok, Bool.true_and]; rfl
      generalize v.1 = vk at *
      have HD := hide' (hkind w1)
      clear hp hkind HP hok b1 HAn
      by_cases h0 : vk = 0
      · have HT : Hid (ans = true) := by show _ = _; rw [HF.out]; exact decide_eq_true h0
        subst h0
        go_wp2_with (go_at_fn f; refine HD.out.mono ?_; rintro e w2 ⟨rfl, b2⟩)
        have B2 := Below.on B1.out b2
        go_ret2
        exact ⟨by rw [HT.out]; rfl, B2⟩
      · have h0' : (vk == 0) = false := by simpa using h0
        have HT : Hid (ans = false) := by show _ = _; rw [HF.out]; exact decide_eq_false h0
        go_wp2_with (go_at_fn f; refine HD.out.mono ?_; rintro e w2 ⟨rfl, b2⟩)
        have B2 := Below.on B1.out b2
        go_ret2
        exact ⟨by rw [HT.out]; rfl, B2⟩
  · have B1 := hide' (Below.on (HA1.out _) b1)
    have HT : Hid (ans = false) := by show _ = _; rw [HAn.out, hno]; rfl
    clear b1 HP
    go_wp2
    go_ret2
    exact ⟨by rw [HT.out]; rfl, B1.out⟩
end Go.Proofs.YteeplidoojeddaaGreatDoor
/-
  Rows of texts as strings, of the call's own; 'append(names, s)'.
-/
namespace Go.Proofs.YteeplidoojeddaaGreatDoor
open Go.RowKit
set_option linter.unusedVariables false
set_option linter.unusedSimpArgs false

/-- Texts as cells of strings. -/
def strC (os : List (List Int)) : List Value := os.map fun xs => .string (strOf xs)
theorem strC_len (os : List (List Int)) : (strC os).length = os.length := by simp [strC]

theorem info9 : (Tryz.prog.info? 9).map (fun i => (i.zero, i.size, i.bytes)) = some (some (.string ⟨#[]⟩), 1, 16) := by kernel_rfl

/-- A row of the call's own that holds texts. -/
def SR (w : World) (base : Nat) (v : Value) (os : List (List Int)) : Prop := w.ownsRow base 9 1 v os.length (strC os)

theorem SR.shape {w : World} {base : Nat} {v : Value} {os : List (List Int)} (h : SR w base v os) : ∃ a cap, v = .slice a os.length cap := by
  obtain ⟨h2, h3⟩ := h
  rcases h3 with ⟨rfl, h0⟩ | ⟨g, cap, cur, rfl, _⟩
  · exact ⟨none, 0, by rw [h0]⟩
  · exact ⟨_, _, rfl⟩

theorem grown_on {w w1 w2 : World} {r r' : Option Nat} (h : w.grownBy w1 r) (k : w1.grownBy w2 r') (hr : ∀ j, r' = some j → r = some j ∨ w.heap.size ≤ j) : w.grownBy w2 r :=
  ⟨k.os.trans h.os, k.tape.trans h.tape, k.output.trans h.output, Nat.le_trans h.size k.size, fun i hi hne => (k.block i (Nat.lt_of_lt_of_le hi h.size) (fun e => by
    rcases hr i e.symm with h1 | h1
    · exact hne h1.symm
    · omega)).trans (h.block i hi hne)⟩

theorem loc_alloc {w : World} {o : Obj} {r r' : Option Nat} (h : ∀ g, r' = some g → r = some g ∨ (w.alloc o).heap.size ≤ g) : ∀ g, r' = some g → r = some g ∨ w.heap.size ≤ g := fun g hg => by
  rcases h g hg with k | k
  · exact .inl k
  · exact .inr (by simp at k; omega)

/-- 'append(names, s)'. -/
theorem wpList_SR_add {w : World} {ops : Array Oper} {rest : List Oper} {o : Oper} {a : Act} {Q : Exit → Act → World → Prop} (hgd : o.guard = none) (s x : Operand)
    (ho : o.op = .call { callee := .builtin .append, args := #[s, x], argTypes := #[53, 53] }) (base : Nat) (v : Value) (os : List (List Int)) (xs : List Int) (hs : a.eval s = v) (hR : SR w base v os)
    (q : Nat) (hq : w.heap.size = q) (hx : a.eval x = .slice (some ⟨q, 0, none⟩) 1 1) (n : Nat) (hn : os.length = n) (hlen : n ≤ 100000) (hbase : base ≤ w.heap.size)
    (h : ∀ a' c' w', SR w' base (.slice a' (n + 1) c') (os ++ [xs]) → w.grownBy w' v.ownBlock → (∀ g, (Value.slice a' (n + 1) c').ownBlock = some g → v.ownBlock = some g ∨ w.heap.size ≤ g) → wpList Tryz.prog ops Q rest (a.put o.dst (.slice a' (n + 1) c')) w') : wpList Tryz.prog ops Q (o :: rest) a (w.alloc (.cells #[.string (strOf xs)] 9)) := by
  subst hq
  obtain ⟨i9, hi9, hy0, hy1, hy2⟩ := info_parts info9
  have hown := World.ownsRow.alloc hR (.cells #[.string (strOf xs)] 9)
  refine wpList_append_own_at (w := w.alloc (.cells #[.string (strOf xs)] 9)) hgd s x 53 ho base 9 i9 (.string ⟨#[]⟩) 1 16 Tryz.underlying53 hi9 hy0 hy1 hy2 rfl (by decide) v os.length (strC os) hs hown ⟨w.heap.size, 0, none⟩ 1 1 [.string (strOf xs)] hx rfl (cell_one_new _ _ _) (by intro z hz; simp at hz; rw [hz]; rfl) (by unfold maxLen; omega) (by omega) (by simp; omega) ?_
  intro v' w' ho' hg' _ hloc
  have k1 : SR w' base v' (os ++ [xs]) := by
    show w'.ownsRow base 9 1 v' (os ++ [xs]).length (strC (os ++ [xs]))
    have e1 : strC (os ++ [xs]) = strC os ++ [.string (strOf xs)] := by simp [strC]
    rw [e1, List.length_append, List.length_singleton]
    exact ho'
  obtain ⟨a', c', e⟩ := k1.shape
  rw [List.length_append, List.length_singleton, hn] at e
  subst e
  refine h a' c' w' k1 (grownBy_trans (World.grownBy_alloc w _ _) hg') fun g hg => ?_
  rcases hloc with e2 | e2
  · exact .inl (e2.symm.trans hg)
  · rw [e2] at hg
    simp at hg
    exact .inr (by omega)
end Go.Proofs.YteeplidoojeddaaGreatDoor
/-
  sort.Slice as the program's fields calls it: at fields (a key, a part), by the keys.
-/
namespace Go.Proofs.YteeplidoojeddaaGreatDoor
open Go.Shelf Go.RowKit Go.Lib Go.Sort
set_option linter.unusedVariables false
set_option linter.unusedSimpArgs false

/-- A field: its key's bytes, its part's type and what that holds. -/
def encF (x : List UInt8 × (TypeId × Value)) : List Value := [.string ⟨x.1.toArray⟩, .iface x.2.1 x.2.2]
/-- One field is ahead of another one. -/
def ltF (x y : List UInt8 × (TypeId × Value)) : Bool := Op.bytesLess x.1 y.1

theorem less_irrefl : ∀ a : List UInt8, Op.bytesLess a a = false
  | [] => rfl
  | x :: a => by
    have ih := less_irrefl a
    have h : ¬ x < x := UInt8.lt_irrefl x
    simp [Op.bytesLess, ih, h]

theorem less_trans : ∀ a b c : List UInt8, Op.bytesLess a b = true → Op.bytesLess b c = true → Op.bytesLess a c = true
  | [], b, [], _, h2 => by cases b <;> simp [Op.bytesLess] at h2
  | [], _, _ :: _, _, _ => rfl
  | _ :: _, [], _, h1, _ => by simp [Op.bytesLess] at h1
  | _ :: _, _ :: _, [], _, h2 => by simp [Op.bytesLess] at h2
  | x :: a, y :: b, z :: c, h1, h2 => by
    have ih := less_trans a b c
    simp only [Op.bytesLess, Bool.or_eq_true, decide_eq_true_eq, Bool.and_eq_true, beq_iff_eq] at h1 h2 ⊢
    rcases h1 with h1 | ⟨rfl, h1⟩
    · rcases h2 with h2 | ⟨rfl, h2⟩
      · exact .inl (UInt8.lt_trans h1 h2)
      · exact .inl h1
    · rcases h2 with h2 | ⟨rfl, h2⟩
      · exact .inl h2
      · exact .inr ⟨rfl, ih h1 h2⟩

theorem less_total : ∀ a b : List UInt8, Op.bytesLess a b = false → Op.bytesLess b a = false → a = b
  | [], [], _, _ => rfl
  | [], _ :: _, h, _ => by simp [Op.bytesLess] at h
  | _ :: _, [], _, h => by simp [Op.bytesLess] at h
  | x :: a, y :: b, h1, h2 => by
    have ih := less_total a b
    simp only [Op.bytesLess, Bool.or_eq_false_iff, decide_eq_false_iff_not, Bool.and_eq_false_iff, beq_eq_false_iff_ne] at h1 h2
    have e : x = y := UInt8.le_antisymm (UInt8.not_lt.1 h2.1) (UInt8.not_lt.1 h1.1)
    subst e
    rw [ih (h1.2.resolve_left (fun h => h rfl)) (h2.2.resolve_left (fun h => h rfl))]

theorem swo_ltF : SWO ltF where
  irrefl x := less_irrefl x.1
  trans x y z h1 h2 := less_trans x.1 y.1 z.1 h1 h2
  ntrans x y z h1 h2 := by
    show Op.bytesLess x.1 z.1 = false
    cases h : Op.bytesLess x.1 z.1 with
    | false => rfl
    | true =>
      have h1' : Op.bytesLess x.1 y.1 = false := h1
      have h2' : Op.bytesLess y.1 z.1 = false := h2
      cases h3 : Op.bytesLess y.1 x.1 with
      | true => rw [less_trans _ _ _ h3 h] at h2'; simp at h2'
      | false =>
        have e := less_total _ _ h1' h3
        rw [e] at h
        rw [h] at h2'
        simp at h2'

set_option maxHeartbeats 2000000 in
/-- The closure of fields. -/
theorem fields_less (blk off c Bs size : Nat) (W : World) (G : Nat → List UInt8) (hs : W.cell? ⟨Bs, 0, none⟩ = some (.slice (some ⟨blk, off, none⟩) size c))
    (hc : ∀ t, t < size → W.cell? ⟨blk, off + t * 2, none⟩ = some (.string ⟨(G t).toArray⟩)) (i j : Nat) (hi : i < size) (hj : j < size) (_hsz : size < 4611686018427387904) :
    Calls Tryz.prog 70 #[.int .i64 i, .int .i64 j, .pointer (some ⟨Bs, 0, none⟩)] W fun e w' => e = .returned (.bool (Op.bytesLess (G i) (G j))) ∧ ∃ q, w' = W.drewN q := by
  have ci := hc i hi
  have cj := hc j hj
  have hi' : (i : Int) < (size : Int) := by omega
  have hj' : (j : Int) < (size : Int) := by omega
  go_enter Tryz.func70, Tryz.ntmps70
  go_wp2
  go_quiet (fail)
  go_wp2
  go_ret
  exact ⟨ret_bool (by simp [ByteArray.toList_mk]), nq, rfl⟩
end Go.Proofs.YteeplidoojeddaaGreatDoor
/-
  A map of parts as its datum: the entries in the order of the keys.
-/
namespace Go.Proofs.YteeplidoojeddaaGreatDoor
open Go.RowKit
set_option linter.unusedVariables false
set_option linter.unusedSimpArgs false

theorem before_eq : ∀ a b : List UInt8, bytesBefore a b = Op.bytesLess a b
  | [], [] => rfl
  | [], _ :: _ => rfl
  | _ :: _, [] => rfl
  | x :: a, y :: b => by
    have ih := before_eq a b
    unfold bytesBefore Op.bytesLess
    rw [ih]

/-- The key at place i is behind the one ahead of it. -/
def upB (ks : List (List Int)) (i : Nat) : Bool := i == 0 || ltS (ks.getD (i - 1) []) (ks.getD i [])
theorem step_up {ks : List (List Int)} {n : Nat} (h : ∀ i, i < n → stepB ks i = true) : ∀ i, i < n → upB ks i = true := by
  intro i hi
  have h1 := h i hi
  simp only [stepB, Bool.and_eq_true] at h1
  exact h1.2

/-- Keys that ascend one by one ascend. -/
theorem asc_ltU {vK : List (List Int)} {k : Nat} (h : ∀ i, i < k → upB vK i = true) : ∀ j, j < k → ∀ i, i < j → Op.bytesLess (u8s (vK.getD i [])) (u8s (vK.getD j [])) = true := by
  intro j
  induction j with
  | zero => intro _ i hi; omega
  | succ j ih =>
    intro hj i hi
    have hs := h (j + 1) hj
    have h1 : Op.bytesLess (u8s (vK.getD j [])) (u8s (vK.getD (j + 1) [])) = true := by
      unfold upB at hs
      have h2 := hs
      rw [Nat.add_sub_cancel] at h2
      have e : (j + 1 == 0) = false := by simp
      rw [e, Bool.false_or] at h2
      exact h2
    by_cases e : i = j
    · rw [e]; exact h1
    · exact less_trans _ _ _ (ih (by omega) i (by omega)) h1

theorem asc_lt {vK : List (List Int)} {k : Nat} (h : ∀ i, i < k → stepB vK i = true) : ∀ j, j < k → ∀ i, i < j → Op.bytesLess (u8s (vK.getD i [])) (u8s (vK.getD j [])) = true := asc_ltU (step_up h)

theorem less_ne {a b : List UInt8} (h : Op.bytesLess a b = true) : (a == b) = false := by
  rw [beq_eq_false_iff_ne]
  intro e
  rw [e, less_irrefl] at h
  simp at h

theorem less_asymm {a b : List UInt8} (h : Op.bytesLess a b = true) : Op.bytesLess b a = false := by
  cases h2 : Op.bytesLess b a with
  | false => rfl
  | true =>
    have := less_trans _ _ _ h h2
    rw [less_irrefl] at this
    simp at this

theorem insert_last {H : Type} (x : Go.Lit × DataW H) : ∀ l : List (Go.Lit × DataW H), (∀ y ∈ l, x.1.before y.1 = false) → DataW.insert x l = l ++ [x]
  | [], _ => rfl
  | y :: r, h => by
    have h1 := h y (by simp)
    have ih := insert_last x r (fun z hz => h z (by simp [hz]))
    unfold DataW.insert
    rw [h1, ih]
    rfl

/-- The first k entries. -/
def entF (vK : List (List Int)) (ps : List Value) (k : Nat) : List (Go.Lit × DataW Value) := (List.range k).map fun i => (.string (u8s (vK.getD i [])), .held (ps.getD i .nilIface))

theorem mapD_listU (vK : List (List Int)) (ps : List Value) : ∀ k, (∀ i, i < k → upB vK i = true) → mapD vK ps k = .map (entF vK ps k)
  | 0, _ => rfl
  | k + 1, h => by
    have ih := mapD_listU vK ps k (fun i hi => h i (by omega))
    show (mapD vK ps k).put _ _ = _
    rw [ih]
    have hl : ∀ y ∈ entF vK ps k, Op.bytesLess (match y.1 with | .string s => s | _ => []) (u8s (vK.getD k [])) = true ∧ ∃ s, y.1 = .string s := by
      intro y hy
      simp only [entF, List.mem_map, List.mem_range] at hy
      obtain ⟨i, hi, rfl⟩ := hy
      exact ⟨asc_ltU h k (by omega) i hi, _, rfl⟩
    have hf : (entF vK ps k).filter (fun p => !p.1.sameKey (.string (u8s (vK.getD k [])))) = entF vK ps k := by
      rw [List.filter_eq_self]
      intro y hy
      obtain ⟨h1, s, hs⟩ := hl y hy
      rw [hs] at h1 ⊢
      show (!(s == u8s (vK.getD k []))) = true
      rw [less_ne h1]
      rfl
    show DataW.map (DataW.insert _ ((entF vK ps k).filter _)) = _
    rw [hf, insert_last _ _ (fun y hy => by
      obtain ⟨h1, s, hs⟩ := hl y hy
      rw [hs] at h1 ⊢
      show bytesBefore _ _ = false
      rw [before_eq]
      exact less_asymm h1)]
    simp [entF, List.range_succ]
theorem mapD_list (vK : List (List Int)) (ps : List Value) (k : Nat) (h : ∀ i, i < k → stepB vK i = true) : mapD vK ps k = .map (entF vK ps k) := mapD_listU vK ps k (step_up h)
end Go.Proofs.YteeplidoojeddaaGreatDoor
/-
  Entries of a map, in whatever order they were met: put in order by their keys they are the one list of the map's entries.
-/
namespace Go.Proofs.YteeplidoojeddaaGreatDoor
open Go.RowKit Go.Sort
set_option linter.unusedVariables false
set_option linter.unusedSimpArgs false

/-- What an interface holds. -/
def unI : Value → TypeId × Value
  | .iface t v => (t, v)
  | _ => (0, .nilIface)

abbrev Fd : Type := List UInt8 × (TypeId × Value)

/-- The entries, in the order of the keys. -/
def fieldL (vK : List (List Int)) (ps : List Value) (n : Nat) : List Fd := (List.range n).map fun i => (u8s (vK.getD i []), unI (ps.getD i .nilIface))

theorem length_fieldL (vK : List (List Int)) (ps : List Value) (n : Nat) : (fieldL vK ps n).length = n := by simp [fieldL]
theorem fieldL_at (vK : List (List Int)) (ps : List Value) (n i : Nat) (h : i < n) : (fieldL vK ps n)[i]'(by rw [length_fieldL]; exact h) = (u8s (vK.getD i []), unI (ps.getD i .nilIface)) := by simp [fieldL]

theorem key_inj {vK : List (List Int)} {n : Nat} (h : ∀ i, i < n → upB vK i = true) {i j : Nat} (hi : i < n) (hj : j < n) (e : u8s (vK.getD i []) = u8s (vK.getD j [])) : i = j := by
  rcases Nat.lt_trichotomy i j with hlt | heq | hgt
  · have := asc_ltU h j hj i hlt
    rw [e, less_irrefl] at this
    simp at this
  · exact heq
  · have := asc_ltU h i hi j hgt
    rw [e, less_irrefl] at this
    simp at this

theorem find_ent (vK : List (List Int)) (ps : List Value) (k : List UInt8) : ∀ (l : List Nat) (i : Nat), i ∈ l → u8s (vK.getD i []) = k → (∀ j ∈ l, u8s (vK.getD j []) = k → j = i) →
    (l.map fun i => ((.string (u8s (vK.getD i [])), .held (ps.getD i .nilIface)) : Go.Lit × DataW Value)).find? (fun p => p.1.sameKey (.string k)) = some (.string k, .held (ps.getD i .nilIface))
  | [], i, h, _, _ => by simp at h
  | j :: l, i, h, e, hu => by
    simp only [List.map_cons, List.find?_cons]
    by_cases hj : u8s (vK.getD j []) = k
    · have := hu j (by simp) hj
      subst this
      rw [hj]
      simp [Lit.sameKey]
    · have hf : (Lit.string (u8s (vK.getD j []))).sameKey (.string k) = false := by simpa [Lit.sameKey] using hj
      rw [hf]
      have hi : i ∈ l := by
        rcases List.mem_cons.1 h with rfl | h
        · exact absurd e hj
        · exact h
      exact find_ent vK ps k l i hi e (fun q hq => hu q (by simp [hq]))

theorem at_ent {vK : List (List Int)} {ps : List Value} {n : Nat} (h : ∀ i, i < n → upB vK i = true) {i : Nat} (hi : i < n) (zd : DataW Value) : (DataW.map (entF vK ps n)).atKey (.string (u8s (vK.getD i []))) zd = .held (ps.getD i .nilIface) := by
  have := find_ent vK ps (u8s (vK.getD i [])) (List.range n) i (by simpa using hi) rfl (fun j hj e => key_inj h (by simpa using hj) hi e)
  unfold entF DataW.atKey
  simp only
  rw [this]

/-- Met in whatever order. -/
def Met (D : DataW Value) (es : List Fd) : Prop := ∀ x ∈ es, ∀ zd, D.atKey (.string x.1) zd = .held (.iface x.2.1 x.2.2)

theorem strKeys_ent (vK : List (List Int)) (ps : List Value) (n : Nat) : Go.strKeys (DataW.map (entF vK ps n)) = (fieldL vK ps n).map (·.1) := by
  simp [Go.strKeys, entF, fieldL, Go.strOf, Function.comp_def]

theorem met_eq {vK : List (List Int)} {ps : List Value} {n : Nat} (h : ∀ i, i < n → upB vK i = true) {es : List Fd} (hm : Met (DataW.map (entF vK ps n)) es) {x : Fd} (hx : x ∈ es) {i : Nat} (hi : i < n) (e : x.1 = u8s (vK.getD i [])) : x = (u8s (vK.getD i []), unI (ps.getD i .nilIface)) := by
  have h1 := hm x hx .nil
  rw [e, at_ent h hi] at h1
  simp only [DataW.held.injEq] at h1
  obtain ⟨x1, x2, x3⟩ := x
  simp only at e h1
  rw [h1, e]
  rfl

theorem nodup_of_map {α β : Type} (f : α → β) {l : List α} (h : (l.map f).Nodup) : l.Nodup := (List.pairwise_map.1 h).imp fun hne e => hne (congrArg f e)

theorem met_perm {vK : List (List Int)} {ps : List Value} {n : Nat} (h : ∀ i, i < n → upB vK i = true) {es : List Fd} (hm : Met (DataW.map (entF vK ps n)) es) (hp : (es.map (·.1)).Perm (Go.strKeys (DataW.map (entF vK ps n)))) : es.Perm (fieldL vK ps n) := by
  rw [strKeys_ent] at hp
  have hnd : ((fieldL vK ps n).map (·.1)).Nodup := by
    rw [List.nodup_iff_pairwise_ne, List.pairwise_map, fieldL, List.pairwise_map]
    refine List.Pairwise.imp_of_mem ?_ (List.nodup_range (n := n))
    intro a b ha hb hne e
    exact hne (key_inj h (by simpa using ha) (by simpa using hb) e)
  have hn1 : (fieldL vK ps n).Nodup := nodup_of_map _ hnd
  have hn2 : es.Nodup := nodup_of_map _ (hp.nodup_iff.2 hnd)
  refine (List.perm_ext_iff_of_nodup hn2 hn1).2 fun x => ⟨fun hx => ?_, fun hx => ?_⟩
  · have h1 : x.1 ∈ (fieldL vK ps n).map (·.1) := hp.mem_iff.1 (List.mem_map.2 ⟨x, hx, rfl⟩)
    obtain ⟨y, hy, e⟩ := List.mem_map.1 h1
    simp only [fieldL, List.mem_map, List.mem_range] at hy
    obtain ⟨i, hi, rfl⟩ := hy
    rw [met_eq h hm hx hi e.symm]
    simp only [fieldL, List.mem_map, List.mem_range]
    exact ⟨i, hi, rfl⟩
  · have h1 : x.1 ∈ es.map (·.1) := hp.mem_iff.2 (List.mem_map.2 ⟨x, hx, rfl⟩)
    obtain ⟨y, hy, e⟩ := List.mem_map.1 h1
    simp only [fieldL, List.mem_map, List.mem_range] at hx
    obtain ⟨i, hi, rfl⟩ := hx
    rw [← met_eq h hm hy hi e]
    exact hy

/-- What is in order and a permutation of the entries is the list of the entries. -/
theorem sorted_eq {vK : List (List Int)} {ps : List Value} {n : Nat} (h : ∀ i, i < n → upB vK i = true) (d d' : Array Fd) (hd : d.toList.Perm (fieldL vK ps n)) (hp : PermIn 0 d.size d d') (hs : SortedIn ltF 0 d.size d') : d'.toList = fieldL vK ps n := by
  have hsz : d'.size = d.size := hp.1
  have hp2 : d'.toList.Perm d.toList := by
    have := hp.2.2
    rw [Array.extract_eq_self_of_le (by omega), Array.extract_eq_self_of_le (by omega)] at this
    exact this
  have hP := hp2.trans hd
  refine List.Perm.eq_of_pairwise (le := fun x y => ltF y x = false) ?_ ?_ ?_ hP
  · intro a b ha hb h1 h2
    have ha' : a ∈ fieldL vK ps n := hP.mem_iff.1 ha
    simp only [fieldL, List.mem_map, List.mem_range] at ha' hb
    obtain ⟨i, hi, rfl⟩ := ha'
    obtain ⟨j, hj, rfl⟩ := hb
    have e := less_total _ _ h2 h1
    have := key_inj h hi hj e
    rw [this]
  · rw [List.pairwise_iff_getElem]
    intro i j hi hj hij
    have := hs i j (Nat.zero_le _) hij (by rw [← hsz]; simpa using hj)
    rw [getElem!_pos d' i (by simpa using hi), getElem!_pos d' j (by simpa using hj)] at this
    simpa using this
  · rw [fieldL, List.pairwise_map]
    refine List.Pairwise.imp_of_mem ?_ (List.pairwise_lt_range (n := n))
    intro a b ha hb hlt
    exact less_asymm (asc_ltU h b (by simpa using hb) a hlt)
end Go.Proofs.YteeplidoojeddaaGreatDoor
/-
  sort.Slice as the program's fields calls it, walked by the shelf's contract: what it leaves is a permutation, ascending by the keys.
-/
namespace Go.Proofs.YteeplidoojeddaaGreatDoor
open Go.Shelf Go.RowKit Go.Lib Go.Sort
set_option linter.unusedVariables false
set_option linter.unusedSimpArgs false
set_option maxRecDepth 100000

theorem infoFT : (Tryz.prog.info? 102).isSome = true := by kernel_rfl
theorem infoFE : (Tryz.prog.info? 105).isSome = true := by kernel_rfl

theorem sort_fields (blk off c Bs : Nat) (d : Array (List UInt8 × (TypeId × Value))) (h2 : 2 ≤ d.size) (hsz : d.size < 4611686018427387904) (w : World) (hH : HoldsK encF 2 w blk off d) (hblk : blk < w.heap.size)
    (hBs : w.cell? ⟨Bs, 0, none⟩ = some (.slice (some ⟨blk, off, none⟩) d.size c)) (hB1 : Bs < w.heap.size) (hB2 : Bs ≠ blk) :
    Calls Tryz.prog 69 #[.iface 102 (.slice (some ⟨blk, off, none⟩) d.size c), .func (.func 70) #[] #[.pointer (some ⟨Bs, 0, none⟩)]] w fun e w' =>
      e = .returned (.tuple #[]) ∧ ∃ d' n os, PermIn 0 d.size d d' ∧ SortedIn ltF 0 d.size d' ∧ w' = grow (putRowK encF 2 (Sort.ahead w n) blk off d') os := by
  have hless : LessReadsK Tryz.prog 70 #[.pointer (some ⟨Bs, 0, none⟩)] encF 2 ltF blk off d.size w := by
    intro m os dk hs i j hi hj
    have e : sortWorldK encF 2 w blk off m dk os = putRowK encF 2 (grow (Sort.ahead w m) os) blk off dk := by
      unfold sortWorldK; rw [putRowK_grow _ _ (Sort.ahead w m) _ blk off _ hblk]
    have hHg : HoldsK encF 2 (grow (Sort.ahead w m) os) blk off d := holdsK_grow _ _ _ _ blk off d hblk (holdsK_ahead _ _ _ _ _ _ _ hH)
    refine fields_less blk off c Bs d.size _ (fun t => dk[t]!.1) ?_ (fun t ht => ?_) i j hi hj (by omega)
    · rw [e, cell?_putRowK_other _ _ _ blk off dk _ (by exact hB2), cell?_grow _ _ _ (by exact hB1)]; exact hBs
    · rw [e]; exact ((holdsK_putRowK _ _ _ blk off d dk hHg hs).cell (i := t) (c := 0) (by omega) (by omega)).1
  have hk9 : ∀ ie, Tryz.prog.info? 105 = some ie → Lib.swapperK d.size ie 25 = 9 := by
    intro ie hie
    have a : ((Tryz.prog.info? 105).map fun i => (i.hasPointers, i.bytes)) = some (true, 32) := by kernel_rfl
    rw [hie] at a
    simp at a
    have c : (d.size == 0) = false := by rw [beq_eq_false_iff_ne]; omega
    have d' : (d.size == 1) = false := by rw [beq_eq_false_iff_ne]; omega
    simp [Lib.swapperK, a.1, a.2, c, d']
  obtain ⟨iT, hiT⟩ := Option.isSome_iff_exists.1 infoFT
  obtain ⟨iE, hiE⟩ := Option.isSome_iff_exists.1 infoFE
  have hdT : iT.desc = .slice 105 := by
    have a : ((Tryz.prog.info? 102).map fun i => i.desc) = some (.slice 105) := by kernel_rfl
    rw [hiT] at a
    simpa using a
  have hsE : iE.size = 2 := by
    have a : ((Tryz.prog.info? 105).map fun i => i.size) = some 2 := by kernel_rfl
    rw [hiE] at a
    simpa using a
  exact Any.sort_Slice_cells_sorted Tryz.laysGg6 102 105 iT iE hiT hdT (by kernel_rfl) hiE 25 (fun _ => by kernel_rfl) encF 2 (fun _ => rfl) hsE (fun _ => by kernel_rfl)
    (fun x v hv => by simp [encF] at hv; rcases hv with rfl | rfl <;> rfl) ltF swo_ltF 70 _
    (enters_of Tryz.func70 (by kernel_rfl) rfl) blk off c d h2 hsz 111 (by rw [hk9 _ hiE]; kernel_rfl) false
    (fun args W => run_callFunc_extern Tryz.func111 (by kernel_rfl) (by kernel_rfl) (by kernel_rfl) (e := Extern.ReflectliteSwapper.swap false) (by kernel_rfl) args W) w hless hH hblk

theorem swap_none (ie : TypeInfo) : Lib.swapperK 0 ie 25 = 1 := rfl
theorem swap_one (ie : TypeInfo) : Lib.swapperK 1 ie 25 = 2 := rfl
/-- .. at no field or one: nothing that lay turns. -/
theorem sort_tiny (p : Option Addr) (n c Bs : Nat) (h1 : n ≤ 1) (w : World) :
    Calls Tryz.prog 69 #[.iface 102 (.slice p n c), .func (.func 70) #[] #[.pointer (some ⟨Bs, 0, none⟩)]] w fun e w' => e = .returned (.tuple #[]) ∧ ∃ os, w' = grow w os := by
  obtain ⟨iT, hiT⟩ := Option.isSome_iff_exists.1 infoFT
  obtain ⟨iE, hiE⟩ := Option.isSome_iff_exists.1 infoFE
  have hdT : iT.desc = .slice 105 := by
    have a : ((Tryz.prog.info? 102).map fun i => i.desc) = some (.slice 105) := by kernel_rfl
    rw [hiT] at a
    simpa using a
  have h01 : n = 0 ∨ n = 1 := by omega
  rcases h01 with rfl | rfl
  · exact Any.sort_Slice_tiny Tryz.laysGg6 102 105 iT iE hiT hdT (by kernel_rfl) hiE 25 (fun _ => by kernel_rfl) p 0 c h1 103 (by rw [swap_none]; kernel_rfl) _ _ _ w
  · exact Any.sort_Slice_tiny Tryz.laysGg6 102 105 iT iE hiT hdT (by kernel_rfl) hiE 25 (fun _ => by kernel_rfl) p 1 c h1 104 (by rw [swap_one]; kernel_rfl) _ _ _ w
end Go.Proofs.YteeplidoojeddaaGreatDoor
