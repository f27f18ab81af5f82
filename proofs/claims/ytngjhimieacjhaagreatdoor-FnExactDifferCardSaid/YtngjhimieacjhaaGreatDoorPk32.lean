/-
  Texts that a law leans on, one behind the other; no statement is proved here.
-/
import Derived.Test.YtngjhimieacjhaaGreatDoorPk19
import Derived.Test.YtngjhimieacjhaaGreatDoorPk31
import Derived.Deep.RegionWith
import Derived.Test.YtngjhimieacjhaaGreatDoorPk20
import Derived.Test.YtngjhimieacjhaaGreatDoorPk13
/-
  cmpParts of the program: parts of different kinds; what has no parts.
-/
namespace Go.Proofs.YtngjhimieacjhaaGreatDoor
open Go.RowKit Go.Shelf
set_option linter.unusedVariables false
set_option linter.unusedSimpArgs false

set_option maxHeartbeats 3200000 in
set_option maxRecDepth 100000 in
theorem cmp_kinds {pt qt : TypeId} {px qx : Value} {ak bk : Int} (h1 : KindOf pt px ak) (h2 : KindOf qt qx bk) (hne : ak ≠ bk) (w : World) :
    Calls Tryz.prog 55 #[.iface pt px, .iface qt qx] w fun e w' => e = .returned (.int .i64 (numC ak bk)) ∧ Below w.heap.size w w' := by
  obtain ⟨f, m1, hcf, k1⟩ := h1
  obtain ⟨g, m2, hcg, k2⟩ := h2
  have HK1 := hide' k1
  have HK2 := hide' k2
  have hn0 : (numC ak bk != 0) = true := by
    unfold numC
    split
    · decide
    · split
      · decide
      · omega
  have HC := hide' (cmpInt_any ak bk)
  generalize numC ak bk = nc at *
  clear k1 k2
  go_enter Tryz.func55, Tryz.ntmps55
  go_wp2_with (first
    | (go_at_fn f; refine (HK1.out _).mono ?_; rintro e w1 ⟨rfl, b1⟩)
    | (go_at_fn g; refine (HK2.out _).mono ?_; rintro e w2 ⟨rfl, b2⟩)
    | (go_at_call 71; refine (HC.out _).mono ?_; rintro e w3 ⟨rfl, e3⟩; obtain rfl := e3))
  go_ret
  exact ⟨rfl, Below.on b1 b2⟩

theorem yes_boolPart (x : Value) (w : World) : (Instr.typeAssert (.iface 113 x) 96 113 true).run Tryz.prog w = .ok (.tuple #[x, .bool true]) w := by kernel_rfl
theorem yes_intPart (x : Value) (w : World) : (Instr.typeAssert (.iface 114 x) 96 114 true).run Tryz.prog w = .ok (.tuple #[x, .bool true]) w := by kernel_rfl
theorem yes_textPart (x : Value) (w : World) : (Instr.typeAssert (.iface 116 x) 96 116 true).run Tryz.prog w = .ok (.tuple #[x, .bool true]) w := by kernel_rfl
theorem yes_listPart (x : Value) (w : World) : (Instr.typeAssert (.iface 120 x) 96 120 true).run Tryz.prog w = .ok (.tuple #[x, .bool true]) w := by kernel_rfl
theorem yes_mapPart (x : Value) (w : World) : (Instr.typeAssert (.iface 59 x) 96 59 true).run Tryz.prog w = .ok (.tuple #[x, .bool true]) w := by kernel_rfl
theorem must_boolPart (x : Value) (w : World) : (Instr.typeAssert (.iface 113 x) 96 113 false).run Tryz.prog w = .ok x w := by kernel_rfl
theorem must_intPart (x : Value) (w : World) : (Instr.typeAssert (.iface 114 x) 96 114 false).run Tryz.prog w = .ok x w := by kernel_rfl
theorem must_textPart (x : Value) (w : World) : (Instr.typeAssert (.iface 116 x) 96 116 false).run Tryz.prog w = .ok x w := by kernel_rfl
theorem must_listPart (x : Value) (w : World) : (Instr.typeAssert (.iface 120 x) 96 120 false).run Tryz.prog w = .ok x w := by kernel_rfl
theorem must_mapPart (x : Value) (w : World) : (Instr.typeAssert (.iface 59 x) 96 59 false).run Tryz.prog w = .ok x w := by kernel_rfl
theorem fld_boolPart (x : Value) (w : World) : (Instr.field 113 (.agg #[x]) 0).run Tryz.prog w = .ok x w := by kernel_rfl
theorem fld_intPart (x : Value) (w : World) : (Instr.field 114 (.agg #[x]) 0).run Tryz.prog w = .ok x w := by kernel_rfl
theorem fld_textPart (x : Value) (w : World) : (Instr.field 116 (.agg #[x]) 0).run Tryz.prog w = .ok x w := by kernel_rfl
theorem fld_listPart (x : Value) (w : World) : (Instr.field 120 (.agg #[x]) 0).run Tryz.prog w = .ok x w := by kernel_rfl
theorem no_bool_nullPart (x : Value) (w : World) : (Instr.typeAssert (.iface 165 x) 96 113 true).run Tryz.prog w = .ok (.tuple #[.agg #[.int .i64 0], .bool false]) w := by kernel_rfl
theorem no_bool_unknownPart (x : Value) (w : World) : (Instr.typeAssert (.iface 166 x) 96 113 true).run Tryz.prog w = .ok (.tuple #[.agg #[.int .i64 0], .bool false]) w := by kernel_rfl
theorem no_bool_intPart (x : Value) (w : World) : (Instr.typeAssert (.iface 114 x) 96 113 true).run Tryz.prog w = .ok (.tuple #[.agg #[.int .i64 0], .bool false]) w := by kernel_rfl
theorem no_bool_textPart (x : Value) (w : World) : (Instr.typeAssert (.iface 116 x) 96 113 true).run Tryz.prog w = .ok (.tuple #[.agg #[.int .i64 0], .bool false]) w := by kernel_rfl
theorem no_bool_listPart (x : Value) (w : World) : (Instr.typeAssert (.iface 120 x) 96 113 true).run Tryz.prog w = .ok (.tuple #[.agg #[.int .i64 0], .bool false]) w := by kernel_rfl
theorem no_bool_mapPart (x : Value) (w : World) : (Instr.typeAssert (.iface 59 x) 96 113 true).run Tryz.prog w = .ok (.tuple #[.agg #[.int .i64 0], .bool false]) w := by kernel_rfl
theorem no_int_nullPart (x : Value) (w : World) : (Instr.typeAssert (.iface 165 x) 96 114 true).run Tryz.prog w = .ok (.tuple #[.agg #[.int .i64 0], .bool false]) w := by kernel_rfl
theorem no_int_unknownPart (x : Value) (w : World) : (Instr.typeAssert (.iface 166 x) 96 114 true).run Tryz.prog w = .ok (.tuple #[.agg #[.int .i64 0], .bool false]) w := by kernel_rfl
theorem no_int_textPart (x : Value) (w : World) : (Instr.typeAssert (.iface 116 x) 96 114 true).run Tryz.prog w = .ok (.tuple #[.agg #[.int .i64 0], .bool false]) w := by kernel_rfl
theorem no_int_listPart (x : Value) (w : World) : (Instr.typeAssert (.iface 120 x) 96 114 true).run Tryz.prog w = .ok (.tuple #[.agg #[.int .i64 0], .bool false]) w := by kernel_rfl
theorem no_int_mapPart (x : Value) (w : World) : (Instr.typeAssert (.iface 59 x) 96 114 true).run Tryz.prog w = .ok (.tuple #[.agg #[.int .i64 0], .bool false]) w := by kernel_rfl
theorem no_text_nullPart (x : Value) (w : World) : (Instr.typeAssert (.iface 165 x) 96 116 true).run Tryz.prog w = .ok (.tuple #[.agg #[.string ⟨#[]⟩], .bool false]) w := by kernel_rfl
theorem no_text_unknownPart (x : Value) (w : World) : (Instr.typeAssert (.iface 166 x) 96 116 true).run Tryz.prog w = .ok (.tuple #[.agg #[.string ⟨#[]⟩], .bool false]) w := by kernel_rfl
theorem no_text_listPart (x : Value) (w : World) : (Instr.typeAssert (.iface 120 x) 96 116 true).run Tryz.prog w = .ok (.tuple #[.agg #[.string ⟨#[]⟩], .bool false]) w := by kernel_rfl
theorem no_text_mapPart (x : Value) (w : World) : (Instr.typeAssert (.iface 59 x) 96 116 true).run Tryz.prog w = .ok (.tuple #[.agg #[.string ⟨#[]⟩], .bool false]) w := by kernel_rfl
theorem no_list_nullPart (x : Value) (w : World) : (Instr.typeAssert (.iface 165 x) 96 120 true).run Tryz.prog w = .ok (.tuple #[.agg #[.slice none 0 0], .bool false]) w := by kernel_rfl
theorem no_list_unknownPart (x : Value) (w : World) : (Instr.typeAssert (.iface 166 x) 96 120 true).run Tryz.prog w = .ok (.tuple #[.agg #[.slice none 0 0], .bool false]) w := by kernel_rfl
theorem no_list_mapPart (x : Value) (w : World) : (Instr.typeAssert (.iface 59 x) 96 120 true).run Tryz.prog w = .ok (.tuple #[.agg #[.slice none 0 0], .bool false]) w := by kernel_rfl
theorem no_map_nullPart (x : Value) (w : World) : (Instr.typeAssert (.iface 165 x) 96 59 true).run Tryz.prog w = .ok (.tuple #[.agg #[.map none], .bool false]) w := by kernel_rfl
theorem no_map_unknownPart (x : Value) (w : World) : (Instr.typeAssert (.iface 166 x) 96 59 true).run Tryz.prog w = .ok (.tuple #[.agg #[.map none], .bool false]) w := by kernel_rfl

set_option maxHeartbeats 3200000 in
set_option maxRecDepth 100000 in
theorem cmp_nullPart (w : World) : Calls Tryz.prog 55 #[.iface 165 (.agg #[]), .iface 165 (.agg #[])] w fun e w' => e = .returned (.int .i64 0) ∧ Below w.heap.size w w' := by
  have m1 := meth_nullPart (.agg #[])
  have HK := hide' kind_nullPart
  have t1 := no_bool_nullPart (.agg #[])
  have t2 := no_int_nullPart (.agg #[])
  have t3 := no_text_nullPart (.agg #[])
  have t4 := no_list_nullPart (.agg #[])
  have t5 := no_map_nullPart (.agg #[])
  have HC := hide' (fun a => cmpInt_any a a)
  have HZ := hide' numC_eq
  go_enter Tryz.func55, Tryz.ntmps55
  go_wp2_with fail
  refine (HK.out _).mono ?_
  rintro e w1 ⟨rfl, b1⟩
  go_wp2_with fail
  refine (HK.out _).mono ?_
  rintro e w2 ⟨rfl, b2⟩
  go_wp2_with fail
  refine (HC.out _ _).mono ?_
  rw [HZ.out]
  rintro e w3 ⟨rfl, e3⟩
  obtain rfl := e3
  go_wp2
  go_ret
  exact ⟨rfl, Below.on b1 b2⟩
set_option maxHeartbeats 3200000 in
set_option maxRecDepth 100000 in
theorem cmp_unknownPart (w : World) : Calls Tryz.prog 55 #[.iface 166 (.agg #[]), .iface 166 (.agg #[])] w fun e w' => e = .returned (.int .i64 0) ∧ Below w.heap.size w w' := by
  have m1 := meth_unknownPart (.agg #[])
  have HK := hide' kind_unknownPart
  have t1 := no_bool_unknownPart (.agg #[])
  have t2 := no_int_unknownPart (.agg #[])
  have t3 := no_text_unknownPart (.agg #[])
  have t4 := no_list_unknownPart (.agg #[])
  have t5 := no_map_unknownPart (.agg #[])
  have HC := hide' (fun a => cmpInt_any a a)
  have HZ := hide' numC_eq
  go_enter Tryz.func55, Tryz.ntmps55
  go_wp2_with fail
  refine (HK.out _).mono ?_
  rintro e w1 ⟨rfl, b1⟩
  go_wp2_with fail
  refine (HK.out _).mono ?_
  rintro e w2 ⟨rfl, b2⟩
  go_wp2_with fail
  refine (HC.out _ _).mono ?_
  rw [HZ.out]
  rintro e w3 ⟨rfl, e3⟩
  obtain rfl := e3
  go_wp2
  go_ret
  exact ⟨rfl, Below.on b1 b2⟩

set_option maxHeartbeats 3200000 in
set_option maxRecDepth 100000 in
theorem cmp_boolPart (n m : Int) (w : World) : Calls Tryz.prog 55 #[.iface 113 (.agg #[.int .i64 n]), .iface 113 (.agg #[.int .i64 m])] w fun e w' => e = .returned (.int .i64 (numC n m)) ∧ Below w.heap.size w w' := by
  have m1 := meth_boolPart (.agg #[.int .i64 n])
  have m2 := meth_boolPart (.agg #[.int .i64 m])
  have HK := hide' (kind_boolPart n)
  have HK2 := hide' (kind_boolPart m)
  have ty := yes_boolPart (.agg #[.int .i64 n])
  have tm := must_boolPart (.agg #[.int .i64 m])
  have tf := fld_boolPart (.int .i64 m)
  have HC := hide' (fun a => cmpInt_any a a)
  have HZ := hide' numC_eq
  have HQ := hide' (cmpInt_any n m)
  have Hb : Hid (∀ (wx : World) (o : Obj), Below wx.heap.size wx (wx.alloc o)) := fun wx o => (Below.refl _ _).alloc (Nat.le_refl _) o
  generalize numC n m = ans at *
  go_enter Tryz.func55, Tryz.ntmps55
  go_wp2_with fail
  refine (HK.out _).mono ?_
  rintro e w1 ⟨rfl, b1⟩
  go_wp2_with fail
  refine (HK2.out _).mono ?_
  rintro e w2 ⟨rfl, b2⟩
  have B2 := hide' (Below.on b1 b2)
  clear b1 b2
  go_wp2_with fail
  refine (HC.out _ _).mono ?_
  rw [HZ.out]
  rintro e w3 ⟨rfl, e3⟩
  obtain rfl := e3
  go_wp2_with fail
  go_quiet ((go_at_call 71; exact quiet_same (HQ.out _)))
  go_wp2
  go_ret
  exact ⟨rfl, below_drewN (Below.on B2.out (Hb.out _ _)) _⟩

set_option maxHeartbeats 3200000 in
set_option maxRecDepth 100000 in
theorem cmp_intPart (n m : Int) (w : World) : Calls Tryz.prog 55 #[.iface 114 (.agg #[.int .i64 n]), .iface 114 (.agg #[.int .i64 m])] w fun e w' => e = .returned (.int .i64 (numC n m)) ∧ Below w.heap.size w w' := by
  have m1 := meth_intPart (.agg #[.int .i64 n])
  have m2 := meth_intPart (.agg #[.int .i64 m])
  have HK := hide' (kind_intPart n)
  have HK2 := hide' (kind_intPart m)
  have t1 := no_bool_intPart (.agg #[.int .i64 n])
  have ty := yes_intPart (.agg #[.int .i64 n])
  have tm := must_intPart (.agg #[.int .i64 m])
  have tf := fld_intPart (.int .i64 m)
  have HC := hide' (fun a => cmpInt_any a a)
  have HZ := hide' numC_eq
  have HQ := hide' (cmpInt_any n m)
  have Hb : Hid (∀ (wx : World) (o : Obj), Below wx.heap.size wx (wx.alloc o)) := fun wx o => (Below.refl _ _).alloc (Nat.le_refl _) o
  generalize numC n m = ans at *
  go_enter Tryz.func55, Tryz.ntmps55
  go_wp2_with fail
  refine (HK.out _).mono ?_
  rintro e w1 ⟨rfl, b1⟩
  go_wp2_with fail
  refine (HK2.out _).mono ?_
  rintro e w2 ⟨rfl, b2⟩
  have B2 := hide' (Below.on b1 b2)
  clear b1 b2
  go_wp2_with fail
  refine (HC.out _ _).mono ?_
  rw [HZ.out]
  rintro e w3 ⟨rfl, e3⟩
  obtain rfl := e3
  go_wp2_with fail
  go_quiet ((go_at_call 71; exact quiet_same (HQ.out _)))
  go_wp2
  go_ret
  exact ⟨rfl, below_drewN (Below.on B2.out (Hb.out _ _)) _⟩

set_option maxHeartbeats 3200000 in
set_option maxRecDepth 100000 in
theorem cmp_textPart (xs ys : List Int) (w : World) : Calls Tryz.prog 55 #[.iface 116 (.agg #[.string (strOf xs)]), .iface 116 (.agg #[.string (strOf ys)])] w fun e w' => e = .returned (.int .i64 (bytesC xs ys)) ∧ Below w.heap.size w w' := by
  have m1 := meth_textPart (.agg #[.string (strOf xs)])
  have m2 := meth_textPart (.agg #[.string (strOf ys)])
  have HK := hide' (kind_textPart (strOf xs))
  have HK2 := hide' (kind_textPart (strOf ys))
  have t1 := no_bool_textPart (.agg #[.string (strOf xs)])
  have t2 := no_int_textPart (.agg #[.string (strOf xs)])
  have ty := yes_textPart (.agg #[.string (strOf xs)])
  have tm := must_textPart (.agg #[.string (strOf ys)])
  have tf := fld_textPart (.string (strOf ys))
  have HC := hide' (fun a => cmpInt_any a a)
  have HZ := hide' numC_eq
  have HQ := hide' (strings_Compare_any xs ys)
  have Hb : Hid (∀ (wx : World) (o : Obj), Below wx.heap.size wx (wx.alloc o)) := fun wx o => (Below.refl _ _).alloc (Nat.le_refl _) o
  generalize bytesC xs ys = ans at *
  go_enter Tryz.func55, Tryz.ntmps55
  go_wp2_with fail
  refine (HK.out _).mono ?_
  rintro e w1 ⟨rfl, b1⟩
  go_wp2_with fail
  refine (HK2.out _).mono ?_
  rintro e w2 ⟨rfl, b2⟩
  have B2 := hide' (Below.on b1 b2)
  clear b1 b2
  go_wp2_with fail
  refine (HC.out _ _).mono ?_
  rw [HZ.out]
  rintro e w3 ⟨rfl, e3⟩
  obtain rfl := e3
  go_wp2_with fail
  go_quiet ((go_at_call 72; exact quiet_same (HQ.out _)))
  go_wp2
  go_ret
  exact ⟨rfl, below_drewN (Below.on B2.out (Hb.out _ _)) _⟩
end Go.Proofs.YtngjhimieacjhaaGreatDoor
/-
  cmpParts of the program at every depth: the order of two parts; slices.CompareFunc as it calls it.
-/
namespace Go.Proofs.YtngjhimieacjhaaGreatDoor
open Go.RowKit
set_option linter.unusedVariables false
set_option linter.unusedSimpArgs false

/-- The contract of cmpParts at depth d. -/
def CmpAt (d : Nat) : Prop := ∀ (N : Nat) (p q : Value) (a b : Vl d) (deep deep' : Nat) (w : World), PSeg (fun b => b < N) w d p a → PSeg (fun b => b < N) w d q b → N ≤ w.heap.size → goodB d a deep = true → goodB d b deep' = true → partsV d a ≤ 40 → partsV d b ≤ 40 →
  Calls Tryz.prog 55 #[p, q] w fun e w' => e = .returned (.int .i64 (cmpV d a b)) ∧ Below w.heap.size w w'

theorem PLSeg.agree {R : Nat → Prop} {w w' : World} {d : Nat} {x : Value} {l : List (Vl d)} (h : PLSeg R w d x l) (hb : Agree R w w') : PLSeg R w' d x l := by
  obtain ⟨a, cap, e, hc⟩ := h
  refine ⟨a, cap, e, ?_⟩
  rcases hc with h0 | ⟨b, off, e1, hR, hc⟩
  · exact .inl h0
  · refine .inr ⟨b, off, e1, hR, fun i hi => ?_⟩
    obtain ⟨u, hu, hv⟩ := hc i hi
    exact ⟨u, (cell_agree hb hR).trans hu, PSeg.carry (fun b hb => hb) hb d hv⟩

set_option maxHeartbeats 3200000 in
theorem cmpFuncP_any (d : Nat) (ih : CmpAt d) (N : Nat) (x y : Value) (l m : List (Vl d)) (aK bK : List (List Int)) (deep deep' : Nat) (w : World) (hx : PLSeg (fun b => b < N) w d x l) (hy : PLSeg (fun b => b < N) w d y m) (hN : N ≤ w.heap.size)
    (gl : ∀ k (h : k < l.length), goodB d l[k] deep = true ∧ partsV d l[k] ≤ 40) (gm : ∀ k (h : k < m.length), goodB d m[k] deep' = true ∧ partsV d m[k] ≤ 40) (hl40 : l.length ≤ 40) (hm40 : m.length ≤ 40) :
    Calls Tryz.prog 73 #[x, y, .func (.func 55) #[] #[]] w fun e w' => e = .returned (.int .i64 (cmpK false aK bK l m 0)) ∧ Below w.heap.size w w' := by
  have HC := hide' hx
  have HC' := hide' hy
  obtain ⟨a, cap, rfl, hc⟩ := hx
  obtain ⟨a', cap', rfl, hc'⟩ := hy
  have HI := hide' ih
  have HA := hide' gl
  have HA' := hide' gm
  generalize hans : cmpK false aK bK l m 0 = ans
  have HO : Hid (ans = cmpK false aK bK l m 0) := hans.symm
  clear hc hc' gl gm ih hans
  go_enter Tryz.func73, Tryz.ntmps73
  go_wp2
  go_loopw [7, 8, 9, 10, 13] (fun _ _ _ _ i wr => ∃ k : Nat, k ≤ l.length ∧ k ≤ m.length ∧ i = .int .i64 k ∧ ans = cmpK false aK bK l m k ∧ Below w.heap.size w wr) (fun _ _ _ _ i _ => l.length - (intOf i).toNat)
  case atStart => exact ⟨0, Nat.zero_le _, Nat.zero_le _, rfl, HO.out, Below.refl _ _⟩
  case round =>
    obtain ⟨k, hk, hk', rfl, hP, hbel⟩ := hrel
    have hsz2 := hbel.size
    by_cases hlt : k < l.length
    · obtain ⟨b, off, t1, x1, rfl, _, q0, hv⟩ := (HC.out.agree (agree_below (hbel.mono hN))).at hlt
      have hlt' : (k : Int) < (l.length : Int) := by omega
      by_cases hlt2 : k < m.length
      · obtain ⟨b', off', t2, x2, rfl, _, r0, hv'⟩ := (HC'.out.agree (agree_below (hbel.mono hN))).at hlt2
        have hlt2' : ¬ (m.length : Int) ≤ (k : Int) := by omega
        have hlt3' : (k : Int) < (m.length : Int) := by omega
        have hE : Hid (Calls Tryz.prog 55 #[.iface t1 x1, .iface t2 x2] wr fun e w' => e = .returned (.int .i64 (cmpV d l[k] m[k])) ∧ Below w.heap.size w w') :=
          (HI.out N _ _ l[k] m[k] deep deep' wr hv hv' (by omega) (HA.out k hlt).1 (HA'.out k hlt2).1 (HA.out k hlt).2 (HA'.out k hlt2).2).mono fun e w' h => ⟨h.1, Below.on hbel h.2⟩
        rw [cmpK_step hlt hlt2] at hP
        have HP := hide' hP
        clear hP hv hv'
        generalize cmpV d l[k] m[k] = sc at *
        by_cases h0 : sc = 0
        · subst h0
          have HP' : Hid (ans = cmpK false aK bK l m (k + 1)) := by show ans = _; rw [HP.out]; simp
          clear HP
          go_wp2_with fail
          refine hE.out.mono ?_
          rintro e w1 ⟨rfl, B1⟩
          clear q0 r0
          go_wp2
          go_roundw
          case rel => exact ⟨k + 1, by omega, by omega, by go_num, HP'.out, B1⟩
          case measure => simp [intOf]; omega
        · have HP' : Hid (ans = sc) := by show ans = _; rw [HP.out]; simp [h0]
          have h0' : (sc != 0) = true := by simp [h0]
          clear HP
          go_wp2_with fail
          refine hE.out.mono ?_
          rintro e w1 ⟨rfl, B1⟩
          clear q0 r0
          go_wp2
          go_ret
          exact ⟨ret_i64 (by rw [HP'.out]), B1⟩
      · have hlt2' : (m.length : Int) ≤ (k : Int) := by omega
        rw [cmpK_end1 hlt hlt2] at hP
        have HP := hide' hP
        clear hP hv
        go_wp2
        go_ret
        exact ⟨ret_i64 (by rw [HP.out]), hbel⟩
    · have hlt' : ¬ (k : Int) < (l.length : Int) := by omega
      have hkl : k = l.length := by omega
      by_cases hlt2 : k < m.length
      · rw [cmpK_end2 hlt hlt2] at hP
        have HP := hide' hP
        have hlm : (l.length : Int) < (m.length : Int) := by omega
        clear hP hkl
        go_wp2
        go_ret
        exact ⟨ret_i64 (by rw [HP.out]), hbel⟩
      · rw [cmpK_end3 hlt hlt2] at hP
        have HP := hide' hP
        have hlm : ¬ (l.length : Int) < (m.length : Int) := by omega
        clear hP hkl
        go_wp2
        go_ret
        exact ⟨ret_i64 (by rw [HP.out]), hbel⟩
end Go.Proofs.YtngjhimieacjhaaGreatDoor
/-
  cmpFields, slices.CompareFunc over fields, cmpParts at lists and maps; cmpParts at every depth.
-/
namespace Go.Proofs.YtngjhimieacjhaaGreatDoor
open Go.RowKit
set_option linter.unusedVariables false
set_option linter.unusedSimpArgs false

/-- The order of two fields. -/
def fldC (d : Nat) (ka kb : List Int) (a b : Vl d) : Int := if bytesC ka kb ≠ 0 then bytesC ka kb else cmpV d a b

set_option maxHeartbeats 3200000 in
theorem cmpFields_any (d : Nat) (ih : CmpAt d) (N : Nat) (ka kb : List Int) (t1 t2 : TypeId) (x1 x2 : Value) (a b : Vl d) (deep deep' : Nat) (w : World) (hp : PSeg (fun b => b < N) w d (.iface t1 x1) a) (hq : PSeg (fun b => b < N) w d (.iface t2 x2) b) (hN : N ≤ w.heap.size) (ga : goodB d a deep = true) (gb : goodB d b deep' = true) (na : partsV d a ≤ 40) (nb : partsV d b ≤ 40) :
    Calls Tryz.prog 76 #[.agg #[.string (strOf ka), .iface t1 x1], .agg #[.string (strOf kb), .iface t2 x2]] w fun e w' => e = .returned (.int .i64 (fldC d ka kb a b)) ∧ Below w.heap.size w w' := by
  have Hb2 : Hid (∀ o o' : Obj, Below w.heap.size w ((w.alloc o).alloc o')) := fun o o' => ((Below.refl _ _).alloc (Nat.le_refl _) o).alloc (by simp) o'
  have HS := hide' (strings_Compare_any ka kb)
  have HE : Hid (∀ o o' : Obj, Calls Tryz.prog 55 #[.iface t1 x1, .iface t2 x2] ((w.alloc o).alloc o') fun e w' => e = .returned (.int .i64 (cmpV d a b)) ∧ Below w.heap.size w w') := by
    intro o o'
    have ag := agree_below ((Hb2.out o o').mono hN)
    refine (ih N _ _ a b deep deep' _ (PSeg.carry (fun b hb => hb) ag d hp) (PSeg.carry (fun b hb => hb) ag d hq) (by have := (Hb2.out o o').size; omega) ga gb na nb).mono fun e w' h => ⟨h.1, Below.on (Hb2.out o o') h.2⟩
  by_cases hbc : bytesC ka kb = 0
  · have HO : Hid (fldC d ka kb a b = cmpV d a b) := by show fldC d ka kb a b = _; simp [fldC, hbc]
    rw [hbc] at HS
    generalize cmpV d a b = cv at *
    generalize fldC d ka kb a b = ans at *
    generalize strOf ka = sa at *
    generalize strOf kb = sb at *
    clear hbc hp hq
    go_enter Tryz.func76, Tryz.ntmps76
    go_wp2_with fail
    refine (HS.out _).mono ?_
    rintro e w1 ⟨rfl, e1⟩
    obtain rfl := e1
    go_wp2_with fail
    refine (HE.out _ _).mono ?_
    rintro e w2 ⟨rfl, B2⟩
    go_wp2
    go_ret
    exact ⟨ret_i64 (by rw [HO.out]), B2⟩
  · have HO : Hid (fldC d ka kb a b = bytesC ka kb) := by show fldC d ka kb a b = _; simp [fldC, hbc]
    have hbc' : (bytesC ka kb != 0) = true := by simp [hbc]
    generalize bytesC ka kb = bc at *
    generalize fldC d ka kb a b = ans at *
    generalize strOf ka = sa at *
    generalize strOf kb = sb at *
    clear hp hq HE
    go_enter Tryz.func76, Tryz.ntmps76
    go_wp2_with fail
    refine (HS.out _).mono ?_
    rintro e w1 ⟨rfl, e1⟩
    obtain rfl := e1
    go_wp2
    go_ret
    exact ⟨ret_i64 (by rw [HO.out]), Hb2.out _ _⟩

theorem cmpK_fld {d : Nat} {aK bK : List (List Int)} {aL bL : List (Vl d)} {k : Nat} (ha : k < aL.length) (hb : k < bL.length) : cmpK true aK bK aL bL k = if fldC d (aK.getD k []) (bK.getD k []) aL[k] bL[k] ≠ 0 then fldC d (aK.getD k []) (bK.getD k []) aL[k] bL[k] else cmpK true aK bK aL bL (k + 1) := by
  rw [cmpK_step ha hb]
  unfold fldC
  generalize bytesC (aK.getD k []) (bK.getD k []) = bc
  by_cases h : bc = 0
  · simp [h]
  · simp [h]

/-- A row of fields, read place by place. -/
theorem FRow.at {w : World} {a : Option Addr} {n c : Nat} {vK : List (List Int)} {ps : List Value} {n' : Nat} (h : FRow w (.slice a n c) vK ps n') {k : Nat} (hk : k < n') : ∃ g, a = some ⟨g, 0, none⟩ ∧ g < w.heap.size ∧ w.cell? ⟨g, k * 2, none⟩ = some (.string (strOf (vK.getD k []))) ∧ w.cell? ⟨g, k * 2 + 1, none⟩ = some (ps.getD k .nilIface) := by
  obtain ⟨a', c', e, _, _, hc⟩ := h
  simp only [Value.slice.injEq] at e
  obtain ⟨rfl, _, _⟩ := e
  rcases hc with h0 | ⟨g, rfl, hg, hc⟩
  · omega
  · exact ⟨g, rfl, hg, (hc k hk).1, (hc k hk).2⟩

theorem FRow.grow {w w' : World} {u : Value} {vK : List (List Int)} {ps : List Value} {n : Nat} (h : FRow w u vK ps n) (hb : Below w.heap.size w w') : FRow w' u vK ps n := by
  obtain ⟨a, c, e, h1, h2, hc⟩ := h
  refine ⟨a, c, e, h1, h2, ?_⟩
  rcases hc with h0 | ⟨g, rfl, hg, hc⟩
  · exact .inl h0
  · exact .inr ⟨g, rfl, Nat.lt_of_lt_of_le hg hb.size, fun i hi => ⟨(World.cell?_of_block (hb.block g hg)).trans (hc i hi).1, (World.cell?_of_block (hb.block g hg)).trans (hc i hi).2⟩⟩

set_option maxHeartbeats 3200000 in
theorem cmpFuncF_any (d : Nat) (ih : CmpAt d) (N : Nat) (x y : Value) (l m : List (Vl d)) (aK bK : List (List Int)) (ps qs : List Value) (deep deep' : Nat) (w : World) (hx : FRow w x aK ps l.length) (hy : FRow w y bK qs m.length) (hN : N ≤ w.heap.size)
    (hps : ∀ k (h : k < l.length), PSeg (fun b => b < N) w d (ps.getD k .nilIface) l[k]) (hqs : ∀ k (h : k < m.length), PSeg (fun b => b < N) w d (qs.getD k .nilIface) m[k])
    (gl : ∀ k (h : k < l.length), goodB d l[k] deep = true ∧ partsV d l[k] ≤ 40) (gm : ∀ k (h : k < m.length), goodB d m[k] deep' = true ∧ partsV d m[k] ≤ 40) (hl40 : l.length ≤ 40) (hm40 : m.length ≤ 40) :
    Calls Tryz.prog 74 #[x, y, .func (.func 76) #[] #[]] w fun e w' => e = .returned (.int .i64 (cmpK true aK bK l m 0)) ∧ Below w.heap.size w w' := by
  have HC := hide' hx
  have HC' := hide' hy
  obtain ⟨a, cap, rfl, _, _, hc⟩ := hx
  obtain ⟨a', cap', rfl, _, _, hc'⟩ := hy
  have HI := hide' ih
  have HA := hide' gl
  have HA' := hide' gm
  have HPs := hide' hps
  have HQs := hide' hqs
  generalize hans : cmpK true aK bK l m 0 = ans
  have HO : Hid (ans = cmpK true aK bK l m 0) := hans.symm
  clear hc hc' gl gm ih hans hps hqs
  go_enter Tryz.func74, Tryz.ntmps74
  go_wp2
  go_loopw [7, 10, 13] (fun _ _ i wr => ∃ k : Nat, k ≤ l.length ∧ k ≤ m.length ∧ i = .int .i64 k ∧ ans = cmpK true aK bK l m k ∧ Below w.heap.size w wr) (fun _ _ i _ => l.length - (intOf i).toNat)
  case atStart => exact ⟨0, Nat.zero_le _, Nat.zero_le _, rfl, HO.out, Below.refl _ _⟩
  case round =>
    obtain ⟨k, hk, hk', rfl, hP, hbel⟩ := hrel
    have hsz2 := hbel.size
    by_cases hlt : k < l.length
    · obtain ⟨g, rfl, hg, q0, q1⟩ := (HC.out.grow hbel).at hlt
      have hv := PSeg.carry (fun b hb => hb) (agree_below (hbel.mono hN)) d (HPs.out k hlt)
      obtain ⟨t1, x1, e1⟩ := hv.shape
      rw [e1] at q1 hv
      have hlt' : (k : Int) < (l.length : Int) := by omega
      have Hb1 : Hid (∀ o : Obj, Below w.heap.size w (wr.alloc o)) := fun o => Below.on hbel ((Below.refl _ _).alloc (Nat.le_refl _) o)
      by_cases hlt2 : k < m.length
      · obtain ⟨g', rfl, hg', r0, r1⟩ := (HC'.out.grow hbel).at hlt2
        have hv' := PSeg.carry (fun b hb => hb) (agree_below (hbel.mono hN)) d (HQs.out k hlt2)
        obtain ⟨t2, x2, e2⟩ := hv'.shape
        rw [e2] at r1 hv'
        have hlt2' : ¬ (m.length : Int) ≤ (k : Int) := by omega
        have hlt3' : (k : Int) < (m.length : Int) := by omega
        have r0A : ∀ o : Obj, (wr.alloc o).cell? ⟨g', k * 2, none⟩ = some (.string (strOf (bK.getD k []))) := fun o => (World.cell?_of_block (((Below.refl _ _).alloc (Nat.le_refl _) o : Below wr.heap.size wr (wr.alloc o)).block g' hg')).trans r0
        have r1A : ∀ o : Obj, (wr.alloc o).cell? ⟨g', k * 2 + 1, none⟩ = some (.iface t2 x2) := fun o => (World.cell?_of_block (((Below.refl _ _).alloc (Nat.le_refl _) o : Below wr.heap.size wr (wr.alloc o)).block g' hg')).trans r1
        have hE : Hid (∀ o o' : Obj, Calls Tryz.prog 76 #[.agg #[.string (strOf (aK.getD k [])), .iface t1 x1], .agg #[.string (strOf (bK.getD k [])), .iface t2 x2]] ((wr.alloc o).alloc o') fun e w' => e = .returned (.int .i64 (fldC d (aK.getD k []) (bK.getD k []) l[k] m[k])) ∧ Below w.heap.size w w') := by
          intro o o'
          have b0 : Below wr.heap.size wr ((wr.alloc o).alloc o') := ((Below.refl _ _).alloc (Nat.le_refl _) o).alloc (by simp) o'
          have ag := agree_below (b0.mono (by omega : N ≤ wr.heap.size))
          exact (cmpFields_any d HI.out N _ _ t1 t2 x1 x2 l[k] m[k] deep deep' _ (PSeg.carry (fun b hb => hb) ag d hv) (PSeg.carry (fun b hb => hb) ag d hv') (by have := b0.size; omega) (HA.out k hlt).1 (HA'.out k hlt2).1 (HA.out k hlt).2 (HA'.out k hlt2).2).mono fun e w' h => ⟨h.1, Below.on (Below.on hbel b0) h.2⟩
        rw [cmpK_fld hlt hlt2] at hP
        have HP := hide' hP
        clear hP hv hv' r0 r1 e1 e2
        generalize fldC d (aK.getD k []) (bK.getD k []) l[k] m[k] = sc at *
        generalize strOf (aK.getD k []) = sa at *
        generalize strOf (bK.getD k []) = sb at *
        by_cases h0 : sc = 0
        · subst h0
          have HP' : Hid (ans = cmpK true aK bK l m (k + 1)) := by show ans = _; rw [HP.out]; simp
          clear HP
          go_wp2_with fail
          refine (hE.out _ _).mono ?_
          rintro e w1 ⟨rfl, B1⟩
          clear q0 q1 r0A r1A
          go_wp2
          go_roundw
          case rel => exact ⟨k + 1, by omega, by omega, by go_num, HP'.out, B1⟩
          case measure => simp [intOf]; omega
        · have HP' : Hid (ans = sc) := by show ans = _; rw [HP.out]; simp [h0]
          have h0' : (sc != 0) = true := by simp [h0]
          clear HP
          go_wp2_with fail
          refine (hE.out _ _).mono ?_
          rintro e w1 ⟨rfl, B1⟩
          clear q0 q1 r0A r1A
          go_wp2
          go_ret
          exact ⟨ret_i64 (by rw [HP'.out]), B1⟩
      · have hlt2' : (m.length : Int) ≤ (k : Int) := by omega
        rw [cmpK_end1 hlt hlt2] at hP
        have HP := hide' hP
        clear hP hv
        generalize strOf (aK.getD k []) = sa at *
        go_wp2
        go_ret
        exact ⟨ret_i64 (by rw [HP.out]), Hb1.out _⟩
    · have hlt' : ¬ (k : Int) < (l.length : Int) := by omega
      have hkl : k = l.length := by omega
      by_cases hlt2 : k < m.length
      · rw [cmpK_end2 hlt hlt2] at hP
        have HP := hide' hP
        have hlm : (l.length : Int) < (m.length : Int) := by omega
        clear hP hkl
        go_wp2
        go_ret
        exact ⟨ret_i64 (by rw [HP.out]), hbel⟩
      · rw [cmpK_end3 hlt hlt2] at hP
        have HP := hide' hP
        have hlm : ¬ (l.length : Int) < (m.length : Int) := by omega
        clear hP hkl
        go_wp2
        go_ret
        exact ⟨ret_i64 (by rw [HP.out]), hbel⟩

set_option maxHeartbeats 3200000 in
set_option maxRecDepth 100000 in
theorem cmp_listPart (d : Nat) (ih : CmpAt d) (N : Nat) (a1 a2 : Option Addr) (c1 c2 : Nat) (l m : List (Vl d)) (aK bK : List (List Int)) (deep deep' : Nat) (w : World) (hx : PLSeg (fun b => b < N) w d (.slice a1 l.length c1) l) (hy : PLSeg (fun b => b < N) w d (.slice a2 m.length c2) m) (hN : N ≤ w.heap.size)
    (gl : ∀ k (h : k < l.length), goodB d l[k] deep = true ∧ partsV d l[k] ≤ 40) (gm : ∀ k (h : k < m.length), goodB d m[k] deep' = true ∧ partsV d m[k] ≤ 40) (hl40 : l.length ≤ 40) (hm40 : m.length ≤ 40) :
    Calls Tryz.prog 55 #[.iface 120 (.agg #[.slice a1 l.length c1]), .iface 120 (.agg #[.slice a2 m.length c2])] w fun e w' => e = .returned (.int .i64 (cmpK false aK bK l m 0)) ∧ Below w.heap.size w w' := by
  have HF : Hid (∀ wx, Below w.heap.size w wx → Calls Tryz.prog 73 #[.slice a1 l.length c1, .slice a2 m.length c2, .func (.func 55) #[] #[]] wx fun e w' => e = .returned (.int .i64 (cmpK false aK bK l m 0)) ∧ Below w.heap.size w w') := fun wx hb =>
    (cmpFuncP_any d ih N _ _ l m aK bK deep deep' wx (hx.agree (agree_below (hb.mono hN))) (hy.agree (agree_below (hb.mono hN))) (by have := hb.size; omega) gl gm hl40 hm40).mono fun e w' h => ⟨h.1, Below.on hb h.2⟩
  clear hx hy gl gm ih
  generalize cmpK false aK bK l m 0 = ans at *
  generalize l.length = n1 at *
  generalize m.length = n2 at *
  have m1 := meth_listPart (.agg #[.slice a1 n1 c1])
  have m2 := meth_listPart (.agg #[.slice a2 n2 c2])
  have HK := hide' (kind_listPart a1 n1 c1)
  have HK2 := hide' (kind_listPart a2 n2 c2)
  have t1 := no_bool_listPart (.agg #[.slice a1 n1 c1])
  have t2 := no_int_listPart (.agg #[.slice a1 n1 c1])
  have t3 := no_text_listPart (.agg #[.slice a1 n1 c1])
  have ty := yes_listPart (.agg #[.slice a1 n1 c1])
  have tm := must_listPart (.agg #[.slice a2 n2 c2])
  have tf := fld_listPart (.slice a2 n2 c2)
  have HC := hide' (fun a => cmpInt_any a a)
  have HZ := hide' numC_eq
  have Hb : Hid (∀ (wx : World) (o : Obj), Below wx.heap.size wx (wx.alloc o)) := fun wx o => (Below.refl _ _).alloc (Nat.le_refl _) o
  go_enter Tryz.func55, Tryz.ntmps55
  go_wp2_with fail
  refine (HK.out _).mono ?_
  rintro e w1 ⟨rfl, b1⟩
  go_wp2_with fail
  refine (HK2.out _).mono ?_
  rintro e w2 ⟨rfl, b2⟩
  have B2 := hide' (Below.on b1 b2)
  clear b1 b2
  go_wp2_with fail
  refine (HC.out _ _).mono ?_
  rw [HZ.out]
  rintro e w3 ⟨rfl, e3⟩
  obtain rfl := e3
  go_wp2_with fail
  go_region_with (go_at_call 73; refine (HF.out _ (Below.on B2.out (Hb.out _ _)).drew).mono ?_; rintro e w4 ⟨rfl, B4⟩)
  all_goals
    go_wp2
    go_ret
    exact ⟨rfl, B4⟩

set_option maxHeartbeats 3200000 in
set_option maxRecDepth 100000 in
theorem cmp_mapPart (d : Nat) (ih : CmpAt d) (N : Nat) (b1 b2 : Nat) (l m : List (Vl d)) (aK bK : List (List Int)) (ps qs : List Value) (deep deep' : Nat) (w : World) (hb1 : b1 < N) (hb2 : b2 < N)
    (hm1 : w.ownsMap Tryz.prog 9 tokR b1 64 (mapD aK ps l.length)) (hm2 : w.ownsMap Tryz.prog 9 tokR b2 64 (mapD bK qs m.length)) (ha : ∀ i, i < l.length → stepB aK i = true) (hb : ∀ i, i < m.length → stepB bK i = true) (hN : N ≤ w.heap.size)
    (hps : ∀ k (h : k < l.length), PSeg (fun b => b < N) w d (ps.getD k .nilIface) l[k]) (hqs : ∀ k (h : k < m.length), PSeg (fun b => b < N) w d (qs.getD k .nilIface) m[k])
    (gl : ∀ k (h : k < l.length), goodB d l[k] deep = true ∧ partsV d l[k] ≤ 40) (gm : ∀ k (h : k < m.length), goodB d m[k] deep' = true ∧ partsV d m[k] ≤ 40) (hl40 : l.length ≤ 40) (hm40 : m.length ≤ 40) :
    Calls Tryz.prog 55 #[.iface 59 (.agg #[.map (some b1)]), .iface 59 (.agg #[.map (some b2)])] w fun e w' => e = .returned (.int .i64 (cmpK true aK bK l m 0)) ∧ Below w.heap.size w w' := by
  have HF1 : Hid (∀ wx, Below w.heap.size w wx → Calls Tryz.prog 75 #[.agg #[.map (some b1)]] wx fun e w' => ∃ p c, e = .returned (.slice p l.length c) ∧ Hid (FRow w' (.slice p l.length c) aK ps l.length) ∧ Below wx.heap.size wx w') := fun wx hx => by
    refine (fields_any b1 l.length aK ps wx (ownsMap_agree hm1 (agree_below (hx.mono hN)) hb1) ha (fun i hi => (hps i hi).shape) hl40).mono ?_
    rintro e w' ⟨u, rfl, hF, hbb⟩
    have hF' := hF
    obtain ⟨p, c, rfl, _⟩ := hF
    exact ⟨p, c, rfl, hF', hbb⟩
  have HF2 : Hid (∀ wx, Below w.heap.size w wx → Calls Tryz.prog 75 #[.agg #[.map (some b2)]] wx fun e w' => ∃ p c, e = .returned (.slice p m.length c) ∧ Hid (FRow w' (.slice p m.length c) bK qs m.length) ∧ Below wx.heap.size wx w') := fun wx hx => by
    refine (fields_any b2 m.length bK qs wx (ownsMap_agree hm2 (agree_below (hx.mono hN)) hb2) hb (fun i hi => (hqs i hi).shape) hm40).mono ?_
    rintro e w' ⟨u, rfl, hF, hbb⟩
    have hF' := hF
    obtain ⟨p, c, rfl, _⟩ := hF
    exact ⟨p, c, rfl, hF', hbb⟩
  have HF3 : Hid (∀ wx x y, Below w.heap.size w wx → FRow wx x aK ps l.length → FRow wx y bK qs m.length → Calls Tryz.prog 74 #[x, y, .func (.func 76) #[] #[]] wx fun e w' => e = .returned (.int .i64 (cmpK true aK bK l m 0)) ∧ Below w.heap.size w w') := fun wx x y hx h1 h2 =>
    (cmpFuncF_any d ih N x y l m aK bK ps qs deep deep' wx h1 h2 (by have := hx.size; omega) (fun k h => PSeg.carry (fun b hb => hb) (agree_below (hx.mono hN)) d (hps k h)) (fun k h => PSeg.carry (fun b hb => hb) (agree_below (hx.mono hN)) d (hqs k h)) gl gm hl40 hm40).mono fun e w' h => ⟨h.1, Below.on hx h.2⟩
  clear hm1 hm2 ha hb hps hqs gl gm ih
  generalize cmpK true aK bK l m 0 = ans at *
  have m1 := meth_mapPart (.agg #[.map (some b1)])
  have m2 := meth_mapPart (.agg #[.map (some b2)])
  have HK := hide' (kind_mapPart b1)
  have HK2 := hide' (kind_mapPart b2)
  have t1 := no_bool_mapPart (.agg #[.map (some b1)])
  have t2 := no_int_mapPart (.agg #[.map (some b1)])
  have t3 := no_text_mapPart (.agg #[.map (some b1)])
  have t4 := no_list_mapPart (.agg #[.map (some b1)])
  have ty := yes_mapPart (.agg #[.map (some b1)])
  have tm := must_mapPart (.agg #[.map (some b2)])
  have HC := hide' (fun a => cmpInt_any a a)
  have HZ := hide' numC_eq
  have Hb : Hid (∀ (wx : World) (o : Obj), Below wx.heap.size wx (wx.alloc o)) := fun wx o => (Below.refl _ _).alloc (Nat.le_refl _) o
  go_enter Tryz.func55, Tryz.ntmps55
  go_wp2_with fail
  refine (HK.out _).mono ?_
  rintro e w1 ⟨rfl, c1⟩
  go_wp2_with fail
  refine (HK2.out _).mono ?_
  rintro e w2 ⟨rfl, c2⟩
  have B2 := hide' (Below.on c1 c2)
  clear c1 c2
  go_wp2_with fail
  refine (HC.out _ _).mono ?_
  rw [HZ.out]
  rintro e w3 ⟨rfl, e3⟩
  obtain rfl := e3
  go_wp2_with fail
  go_region_with (first
    | (go_at_call_of 75 b1; refine (HF1.out _ (Below.on B2.out (Hb.out _ _)).drew).mono ?_; rintro e w4 ⟨p1, q1, rfl, hR1, d1⟩; have D1 := Below.on (Below.on B2.out (Hb.out _ _)).drew d1)
    | (go_at_call_of 75 b2; refine (HF2.out _ D1).mono ?_; rintro e w5 ⟨p2, q2, rfl, hR2, d2⟩; have D2 := Below.on D1 d2; have hR3 := hide' (hR1.out.grow d2))
    | (go_at_call 74; refine (HF3.out _ _ _ D2 hR3.out hR2.out).mono ?_; rintro e w6 ⟨rfl, D3⟩))
  all_goals
    go_wp2
    go_ret
    exact ⟨rfl, D3⟩

end Go.Proofs.YtngjhimieacjhaaGreatDoor
/-
  cmpParts of the program at every depth.
-/
namespace Go.Proofs.YtngjhimieacjhaaGreatDoor
open Go.RowKit
set_option linter.unusedVariables false
set_option linter.unusedSimpArgs false

theorem cmpK_nil {d : Nat} (m : Bool) (aK bK : List (List Int)) {aL bL : List (Vl d)} (h : aL.length = 0) (h' : bL.length = 0) : cmpK m aK bK aL bL 0 = 0 := cmpK_end3 (by omega) (by omega)

theorem shape_none {vk vn : Int} {vs : List Int} {vK : List (List Int)} {n : Nat} (h : shapeB vk vn vs vK n = true) (h4 : vk ≠ 4) (h5 : vk ≠ 5) : n = 0 := by
  unfold shapeB bareB at h
  simp [h4, h5] at h
  exact h.1.2
theorem shape_num {vk vn : Int} {vs : List Int} {vK : List (List Int)} {n : Nat} (h : shapeB vk vn vs vK n = true) (h1 : vk ≠ 1) (h2 : vk ≠ 2) : vn = 0 := by
  unfold shapeB bareB at h
  simp [h1, h2] at h
  exact h.1.1.1.1
theorem shape_asc {vn : Int} {vs : List Int} {vK : List (List Int)} {n : Nat} (h : shapeB 5 vn vs vK n = true) : vK.length = n ∧ ascB vK = true := by
  unfold shapeB at h
  simp at h
  exact h.2
theorem kid_le {d : Nat} {vk vn : Int} {vs : List Int} {vK : List (List Int)} {vL : List (Vl d)} (h : partsV (d + 1) (vk, vn, vs, vK, vL) ≤ 40) : vL.length ≤ 40 ∧ ∀ k (hk : k < vL.length), partsV d vL[k] ≤ 40 := by
  rw [parts_succ] at h
  refine ⟨by have := pre_ge d vL vL.length (Nat.le_refl _); omega, fun k hk => ?_⟩
  have h1 := pre_succ (partsV d) vL k hk
  have h2 := pre_le (partsV d) vL (k + 1)
  have h3 := pre_all (partsV d) vL
  omega

theorem as_ans {F : Nat} {args : Array Value} {w : World} {x y : Int} (e : y = x) (h : Calls Tryz.prog F args w fun e w' => e = .returned (.int .i64 x) ∧ Below w.heap.size w w') : Calls Tryz.prog F args w fun e w' => e = .returned (.int .i64 y) ∧ Below w.heap.size w w' := e ▸ h

theorem numC_self_of {a b : Int} (h : a = b) : numC a b = 0 := by rw [h]; exact numC_eq b

theorem cmpParts_succ (d : Nat) (ih : CmpAt d) : CmpAt (d + 1) := by
  intro N p q a b deep deep' w hp hq hN ga gb na nb
  obtain ⟨pt, px, rfl⟩ := hp.shape
  obtain ⟨qt, qx, rfl⟩ := hq.shape
  have k1 := kind_of hp
  have k2 := kind_of hq
  by_cases hk : a.1 = b.1
  · obtain ⟨ak, an, aS, aK, aL⟩ := a
    obtain ⟨bk, bn, bS, bK, bL⟩ := b
    simp only at hk
    subst hk
    have sa := ((good_succ _ _ _ _ _ _ _).1 ga).2.1
    have sb := ((good_succ _ _ _ _ _ _ _).1 gb).2.1
    have pa := ((good_succ _ _ _ _ _ _ _).1 ga).2.2
    have pb := ((good_succ _ _ _ _ _ _ _).1 gb).2.2
    obtain ⟨la, ka⟩ := kid_le na
    obtain ⟨lb, kb⟩ := kid_le nb
    have leafs : ak ≠ 3 → ak ≠ 4 → ak ≠ 5 → cmpV (d + 1) (ak, an, aS, aK, aL) (ak, bn, bS, bK, bL) = numC an bn := by
      intro h3 h4 h5
      by_cases hn : an = bn
      · exact ((cmpV_parts (d := d) (a := (ak, an, aS, aK, aL)) (b := (ak, bn, bS, bK, bL)) rfl h3 hn).trans (cmpK_nil _ _ _ (shape_none sa h4 h5) (shape_none sb h4 h5))).trans (numC_self_of hn).symm
      · exact cmpV_num (d := d) (a := (ak, an, aS, aK, aL)) (b := (ak, bn, bS, bK, bL)) rfl h3 hn
    rcases hp with ⟨e, ep⟩ | ⟨e, ep⟩ | ⟨e, ep⟩ | ⟨e, ep⟩ | ⟨e, ep⟩ | ⟨e, a1, c1, ep, hc1⟩ | ⟨e, b1, ps, ep, hR1, hm1, hc1⟩ <;> simp only at e <;> subst e <;> simp only [Value.iface.injEq] at ep <;> obtain ⟨rfl, rfl⟩ := ep
    · rcases hq with ⟨e, eq⟩ | ⟨e, eq⟩ | ⟨e, eq⟩ | ⟨e, eq⟩ | ⟨e, eq⟩ | ⟨e, a2, c2, eq, hc2⟩ | ⟨e, b2, qs, eq, hR2, hm2, hc2⟩ <;> simp at e
      simp only [Value.iface.injEq] at eq
      obtain ⟨rfl, rfl⟩ := eq
      exact as_ans ((leafs (by omega) (by omega) (by omega)).trans (numC_self_of (by rw [shape_num sa (by omega) (by omega), shape_num sb (by omega) (by omega)]))) (cmp_nullPart w)
    · rcases hq with ⟨e, eq⟩ | ⟨e, eq⟩ | ⟨e, eq⟩ | ⟨e, eq⟩ | ⟨e, eq⟩ | ⟨e, a2, c2, eq, hc2⟩ | ⟨e, b2, qs, eq, hR2, hm2, hc2⟩ <;> simp at e
      simp only [Value.iface.injEq] at eq
      obtain ⟨rfl, rfl⟩ := eq
      exact as_ans ((leafs (by omega) (by omega) (by omega)).trans (numC_self_of (by rw [shape_num sa (by omega) (by omega), shape_num sb (by omega) (by omega)]))) (cmp_unknownPart w)
    · rcases hq with ⟨e, eq⟩ | ⟨e, eq⟩ | ⟨e, eq⟩ | ⟨e, eq⟩ | ⟨e, eq⟩ | ⟨e, a2, c2, eq, hc2⟩ | ⟨e, b2, qs, eq, hR2, hm2, hc2⟩ <;> simp at e
      simp only [Value.iface.injEq] at eq
      obtain ⟨rfl, rfl⟩ := eq
      exact as_ans (leafs (by omega) (by omega) (by omega)) (cmp_boolPart an bn w)
    · rcases hq with ⟨e, eq⟩ | ⟨e, eq⟩ | ⟨e, eq⟩ | ⟨e, eq⟩ | ⟨e, eq⟩ | ⟨e, a2, c2, eq, hc2⟩ | ⟨e, b2, qs, eq, hR2, hm2, hc2⟩ <;> simp at e
      simp only [Value.iface.injEq] at eq
      obtain ⟨rfl, rfl⟩ := eq
      exact as_ans (leafs (by omega) (by omega) (by omega)) (cmp_intPart an bn w)
    · rcases hq with ⟨e, eq⟩ | ⟨e, eq⟩ | ⟨e, eq⟩ | ⟨e, eq⟩ | ⟨e, eq⟩ | ⟨e, a2, c2, eq, hc2⟩ | ⟨e, b2, qs, eq, hR2, hm2, hc2⟩ <;> simp at e
      simp only [Value.iface.injEq] at eq
      obtain ⟨rfl, rfl⟩ := eq
      exact as_ans (cmpV_text (d := d) (a := (3, an, aS, aK, aL)) (b := (3, bn, bS, bK, bL)) rfl rfl) (cmp_textPart aS bS w)
    · rcases hq with ⟨e, eq⟩ | ⟨e, eq⟩ | ⟨e, eq⟩ | ⟨e, eq⟩ | ⟨e, eq⟩ | ⟨e, a2, c2, eq, hc2⟩ | ⟨e, b2, qs, eq, hR2, hm2, hc2⟩ <;> simp at e
      simp only [Value.iface.injEq] at eq
      obtain ⟨rfl, rfl⟩ := eq
      have hn : an = bn := by rw [shape_num sa (by omega) (by omega), shape_num sb (by omega) (by omega)]
      refine as_ans (cmpV_parts (d := d) (a := (4, an, aS, aK, aL)) (b := (4, bn, bS, bK, bL)) rfl (by simp) hn) ?_
      exact cmp_listPart d ih N a1 a2 c1 c2 aL bL aK bK (deep + 1) (deep' + 1) w ⟨a1, c1, rfl, hc1⟩ ⟨a2, c2, rfl, hc2⟩ hN (fun k h => ⟨pa k h, ka k h⟩) (fun k h => ⟨pb k h, kb k h⟩) la lb
    · rcases hq with ⟨e, eq⟩ | ⟨e, eq⟩ | ⟨e, eq⟩ | ⟨e, eq⟩ | ⟨e, eq⟩ | ⟨e, a2, c2, eq, hc2⟩ | ⟨e, b2, qs, eq, hR2, hm2, hc2⟩ <;> simp at e
      simp only [Value.iface.injEq] at eq
      obtain ⟨rfl, rfl⟩ := eq
      have hn : an = bn := by rw [shape_num sa (by omega) (by omega), shape_num sb (by omega) (by omega)]
      refine as_ans (cmpV_parts (d := d) (a := (5, an, aS, aK, aL)) (b := (5, bn, bS, bK, bL)) rfl (by simp) hn) ?_
      obtain ⟨e1, as1⟩ := shape_asc sa
      obtain ⟨e2, as2⟩ := shape_asc sb
      exact cmp_mapPart d ih N b1 b2 aL bL aK bK ps qs (deep + 1) (deep' + 1) w hR1 hR2 hm1 hm2 (fun i hi => ascB_at as1 (by omega)) (fun i hi => ascB_at as2 (by omega)) hN hc1 hc2 (fun k h => ⟨pa k h, ka k h⟩) (fun k h => ⟨pb k h, kb k h⟩) la lb
  · exact as_ans (cmpV_kind hk) (cmp_kinds k1 k2 hk w)

theorem cmpParts_any (d : Nat) : CmpAt d := by
  induction d with
  | zero => intro N p q a b deep deep' w hv; exact hv.elim
  | succ d ih => exact cmpParts_succ d ih
end Go.Proofs.YtngjhimieacjhaaGreatDoor
