/-
  Texts that a law leans on, one behind the other; no statement is proved here.
-/
import Derived.Test.YtlhcfipfkodlfaaPk5
import Derived.Test.YtlhcfipfkodlfaaPk3
import Derived.Test.YtlhcfipfkodlfaaPk8
import Derived.Test.YtlhcfipfkodlfaaPk0
import Derived.WalkKit
import Derived.ProofKit
import Derived.ChangeSlices
import Derived.ChangeArms
/-
  The kind of a part: a method of an interface value, by the value's own type.
-/
namespace Go.Proofs.Ytlhcfipfkodlfaa
open Go.RowKit Go.Shelf
set_option linter.unusedVariables false
set_option linter.unusedSimpArgs false

theorem meth_nullPart (x : Value) (w : World) : (method 237 62 x "loop.example/g00407/impl.kind").run Try.prog w = .ok (95, x) w := by kernel_rfl
theorem calls_nullPart (args : Array Value) (w : World) : (callFunc 95 args).run Try.prog w = .ok (.enter 95 args) w := enters_of Try.func95 (by kernel_rfl) rfl args w
theorem meth_unknownPart (x : Value) (w : World) : (method 237 63 x "loop.example/g00407/impl.kind").run Try.prog w = .ok (96, x) w := by kernel_rfl
theorem calls_unknownPart (args : Array Value) (w : World) : (callFunc 96 args).run Try.prog w = .ok (.enter 96 args) w := enters_of Try.func96 (by kernel_rfl) rfl args w
theorem meth_boolPart (x : Value) (w : World) : (method 237 65 x "loop.example/g00407/impl.kind").run Try.prog w = .ok (97, x) w := by kernel_rfl
theorem calls_boolPart (args : Array Value) (w : World) : (callFunc 97 args).run Try.prog w = .ok (.enter 97 args) w := enters_of Try.func97 (by kernel_rfl) rfl args w
theorem meth_intPart (x : Value) (w : World) : (method 237 66 x "loop.example/g00407/impl.kind").run Try.prog w = .ok (98, x) w := by kernel_rfl
theorem calls_intPart (args : Array Value) (w : World) : (callFunc 98 args).run Try.prog w = .ok (.enter 98 args) w := enters_of Try.func98 (by kernel_rfl) rfl args w
theorem meth_textPart (x : Value) (w : World) : (method 237 68 x "loop.example/g00407/impl.kind").run Try.prog w = .ok (99, x) w := by kernel_rfl
theorem calls_textPart (args : Array Value) (w : World) : (callFunc 99 args).run Try.prog w = .ok (.enter 99 args) w := enters_of Try.func99 (by kernel_rfl) rfl args w
theorem meth_listPart (x : Value) (w : World) : (method 237 72 x "loop.example/g00407/impl.kind").run Try.prog w = .ok (100, x) w := by kernel_rfl
theorem calls_listPart (args : Array Value) (w : World) : (callFunc 100 args).run Try.prog w = .ok (.enter 100 args) w := enters_of Try.func100 (by kernel_rfl) rfl args w
theorem meth_mapPart (x : Value) (w : World) : (method 237 75 x "loop.example/g00407/impl.kind").run Try.prog w = .ok (101, x) w := by kernel_rfl
theorem calls_mapPart (args : Array Value) (w : World) : (callFunc 101 args).run Try.prog w = .ok (.enter 101 args) w := enters_of Try.func101 (by kernel_rfl) rfl args w

set_option maxHeartbeats 800000 in
theorem kind_nullPart (w : World) : Calls Try.prog 95 #[.agg #[]] w fun e w' => e = .returned (.int .i64 0) ∧ Below w.heap.size w w' := by
  have Hb : Hid (∀ o : Obj, Below w.heap.size w (w.alloc o)) := fun o => (Below.refl _ _).alloc (Nat.le_refl _) o
  go_enter Try.func95, Try.ntmps95
  go_wp2
  go_ret
  exact ⟨rfl, Hb.out _⟩
set_option maxHeartbeats 800000 in
theorem kind_unknownPart (w : World) : Calls Try.prog 96 #[.agg #[]] w fun e w' => e = .returned (.int .i64 6) ∧ Below w.heap.size w w' := by
  have Hb : Hid (∀ o : Obj, Below w.heap.size w (w.alloc o)) := fun o => (Below.refl _ _).alloc (Nat.le_refl _) o
  go_enter Try.func96, Try.ntmps96
  go_wp2
  go_ret
  exact ⟨rfl, Hb.out _⟩
set_option maxHeartbeats 800000 in
theorem kind_boolPart (n : Int) (w : World) : Calls Try.prog 97 #[.agg #[.int .i64 n]] w fun e w' => e = .returned (.int .i64 1) ∧ Below w.heap.size w w' := by
  have Hb : Hid (∀ o : Obj, Below w.heap.size w (w.alloc o)) := fun o => (Below.refl _ _).alloc (Nat.le_refl _) o
  go_enter Try.func97, Try.ntmps97
  go_wp2
  go_ret
  exact ⟨rfl, Hb.out _⟩
set_option maxHeartbeats 800000 in
theorem kind_intPart (n : Int) (w : World) : Calls Try.prog 98 #[.agg #[.int .i64 n]] w fun e w' => e = .returned (.int .i64 2) ∧ Below w.heap.size w w' := by
  have Hb : Hid (∀ o : Obj, Below w.heap.size w (w.alloc o)) := fun o => (Below.refl _ _).alloc (Nat.le_refl _) o
  go_enter Try.func98, Try.ntmps98
  go_wp2
  go_ret
  exact ⟨rfl, Hb.out _⟩
set_option maxHeartbeats 800000 in
theorem kind_textPart (s : ByteArray) (w : World) : Calls Try.prog 99 #[.agg #[.string s]] w fun e w' => e = .returned (.int .i64 3) ∧ Below w.heap.size w w' := by
  have Hb : Hid (∀ o : Obj, Below w.heap.size w (w.alloc o)) := fun o => (Below.refl _ _).alloc (Nat.le_refl _) o
  go_enter Try.func99, Try.ntmps99
  go_wp2
  go_ret
  exact ⟨rfl, Hb.out _⟩
set_option maxHeartbeats 800000 in
theorem kind_listPart (a : Option Addr) (n c : Nat) (w : World) : Calls Try.prog 100 #[.agg #[.slice a n c]] w fun e w' => e = .returned (.int .i64 4) ∧ Below w.heap.size w w' := by
  have Hb : Hid (∀ o : Obj, Below w.heap.size w (w.alloc o)) := fun o => (Below.refl _ _).alloc (Nat.le_refl _) o
  go_enter Try.func100, Try.ntmps100
  go_wp2
  go_ret
  exact ⟨rfl, Hb.out _⟩
set_option maxHeartbeats 800000 in
theorem kind_mapPart (b : Nat) (w : World) : Calls Try.prog 101 #[.agg #[.map (some b)]] w fun e w' => e = .returned (.int .i64 5) ∧ Below w.heap.size w w' := by
  have Hb : Hid (∀ o : Obj, Below w.heap.size w (w.alloc o)) := fun o => (Below.refl _ _).alloc (Nat.le_refl _) o
  go_enter Try.func101, Try.ntmps101
  go_wp2
  go_ret
  exact ⟨rfl, Hb.out _⟩

/-- What a call of kind leans on. -/
def KindOf (pt : TypeId) (px : Value) (vk : Int) : Prop := ∃ f : Nat, (∀ w, (method 237 pt px "loop.example/g00407/impl.kind").run Try.prog w = .ok (f, px) w) ∧ (∀ args w, (callFunc f args).run Try.prog w = .ok (.enter f args) w) ∧ ∀ w, Calls Try.prog f #[px] w fun e w' => e = .returned (.int .i64 vk) ∧ Below w.heap.size w w'

theorem kind_of {R : Nat → Prop} {w : World} {d : Nat} {pt : TypeId} {px : Value} {v : Vl (d + 1)} (h : PSeg R w (d + 1) (.iface pt px) v) : KindOf pt px v.1 := by
  rcases h with ⟨hk, e⟩ | ⟨hk, e⟩ | ⟨hk, e⟩ | ⟨hk, e⟩ | ⟨hk, e⟩ | ⟨hk, a, cap, e, _⟩ | ⟨hk, b, ps, e, _⟩ <;>
    simp only [Value.iface.injEq] at e <;> obtain ⟨rfl, rfl⟩ := e <;> rw [hk]
  · exact ⟨_, meth_nullPart _, calls_nullPart, kind_nullPart⟩
  · exact ⟨_, meth_unknownPart _, calls_unknownPart, kind_unknownPart⟩
  · exact ⟨_, meth_boolPart _, calls_boolPart, kind_boolPart _⟩
  · exact ⟨_, meth_intPart _, calls_intPart, kind_intPart _⟩
  · exact ⟨_, meth_textPart _, calls_textPart, kind_textPart _⟩
  · exact ⟨_, meth_listPart _, calls_listPart, kind_listPart _ _ _⟩
  · exact ⟨_, meth_mapPart _, calls_mapPart, kind_mapPart _⟩
end Go.Proofs.Ytlhcfipfkodlfaa
/-
  known of a part at every depth: a method of an interface value, by the value's own type.
-/
namespace Go.Proofs.Ytlhcfipfkodlfaa
open Go.RowKit Go.Shelf
set_option linter.unusedVariables false
set_option linter.unusedSimpArgs false

set_option maxHeartbeats 1600000 in
set_option maxRecDepth 100000 in
theorem known_succ (d : Nat) (ih : PAt 31 (fun d v => .bool (knownV d v)) d) : PAt 31 (fun d v => .bool (knownV d v)) (d + 1) := by
  intro N p v deep w hp hN hg hn
  obtain ⟨pt, px, rfl⟩ := hp.shape
  obtain ⟨f, hm, hcf, hkind⟩ := kind_of hp
  obtain ⟨vk, vn, vs, vK, vL⟩ := v
  simp only at hkind
  have hgd := ((good_succ _ _ _ _ _ _ _).1 hg).2.2
  have hps := parts_succ d vk vn vs vK vL
  have hlen : vL.length ≤ 40 := by have := pre_ge d vL vL.length (Nat.le_refl _); omega
  have HK := hide' (kids_any d N _ _ deep w hp hN hg hlen)
  have HI := hide' ih
  have HG := hide' hgd
  have HKp : Hid (∀ k (hk : k < vL.length), partsV d vL[k] ≤ 40) := fun k hk => (kid_parts hk hn).1
  have HNo : Hid (∀ k (hk : k < vL.length), knownV d vL[k] = false → knownV (d + 1) (vk, vn, vs, vK, vL) = false) := fun k hk h => known_no hk h
  have HYes : Hid (vk ≠ 6 → (∀ k (hk : k < vL.length), knownV d vL[k] = true) → knownV (d + 1) (vk, vn, vs, vK, vL) = true) := fun h1 h2 => known_yes h1 h2
  have HSix : Hid (vk = 6 → knownV (d + 1) (vk, vn, vs, vK, vL) = false) := fun h => by
    subst h
    show (!decide ((6 : Int) = 6) && _) = false
    simp
  have HKd := hide' hkind
  clear ih hgd hps hp hg hn hkind
  go_enter Try.func31, Try.ntmps31
  go_wp2_with fail
  refine HK.out.mono ?_
  rintro e w1 ⟨u, rfl, hL, b1⟩
  have HLs := hide' hL
  have Hb1 := hide' b1
  obtain ⟨a, cap, rfl, _⟩ := hL
  clear b1 HK
  go_wp2
  go_loopw [4, 8] (fun _ i wr => ∃ k : Nat, k ≤ vL.length ∧ i = .int .i64 k ∧ (∀ j (hj : j < vL.length), j < k → knownV d vL[j] = true) ∧ Below w1.heap.size w1 wr) (fun _ i _ => vL.length - (intOf i).toNat)
  case atStart => exact ⟨0, Nat.zero_le _, rfl, fun j _ h => by omega, Below.refl _ _⟩
  case round =>
    obtain ⟨k, hk, rfl, hall, hbel⟩ := hrel
    have hsz := hbel.size
    by_cases hlt : k < vL.length
    · have hlt' : (k : Int) < (vL.length : Int) := by omega
      obtain ⟨b, off, qt, qx, rfl, hb, hcell, hq⟩ := (HLs.out.grow hbel).at hlt
      have HC : Hid (Calls Try.prog 31 #[.iface qt qx] wr fun e w' => e = .returned (.bool (knownV d vL[k])) ∧ Below wr.heap.size wr w') := HI.out w1.heap.size _ vL[k] (deep + 1) wr hq hsz (HG.out k hlt) (HKp.out k hlt)
      have HN : Hid (knownV d vL[k] = false → knownV (d + 1) (vk, vn, vs, vK, vL) = false) := HNo.out k hlt
      have HA : Hid (knownV d vL[k] = true → ∀ j (hj : j < vL.length), j < k + 1 → knownV d vL[j] = true) := fun h j hj hjk => by
        by_cases e : j = k
        · subst e; exact h
        · exact hall j hj (by omega)
      generalize knownV d vL[k] = kb at *
      clear hq hall
      go_wp2_with fail
      refine HC.out.mono ?_
      rintro e w2 ⟨rfl, b2⟩
      have B2 := Below.on hbel b2
      have B2' := hide' (Below.on Hb1.out B2)
      clear hcell HC b2
      cases kb
      · have HF := hide' (HN.out rfl)
        go_wp2
        go_ret
        exact ⟨ret_bool (by rw [HF.out]), B2'.out⟩
      · have HF := hide' (HA.out rfl)
        go_wp2
        go_roundw
        case rel => exact ⟨k + 1, by omega, by go_num, HF.out, B2⟩
        case measure => simp [intOf]; omega
    · have hkn : k = vL.length := by omega
      have hkn' : ¬ (k : Int) < (vL.length : Int) := by omega
      have B := hide' (Below.on Hb1.out hbel)
      have HA : Hid (∀ j (hj : j < vL.length), knownV d vL[j] = true) := fun j hj => hall j hj (by omega)
      have HD := hide' (HKd.out wr)
      clear hkn hall
      by_cases h6 : vk = 6
      · have HF := hide' (HSix.out h6)
        have h6' : (vk != 6) = false := by simp [h6]
        go_wp2_with (go_at_fn f; refine HD.out.mono ?_; rintro e w2 ⟨rfl, b2⟩)
        have B2 := Below.on B.out b2
        go_ret
        exact ⟨ret_bool (by rw [HF.out]), B2⟩
      · have HF := hide' (HYes.out h6 HA.out)
        have h6' : (vk != 6) = true := by simp [h6]
        go_wp2_with (go_at_fn f; refine HD.out.mono ?_; rintro e w2 ⟨rfl, b2⟩)
        have B2 := Below.on B.out b2
        go_ret
        exact ⟨ret_bool (by rw [HF.out]), B2⟩

theorem countParts_any (d : Nat) : PAt 24 (fun d v => .int .i64 (partsV d v)) d := by
  induction d with
  | zero => intro N p v deep w hv; exact hv.elim
  | succ d ih => exact countParts_succ d ih
theorem depthOf_any (d : Nat) : PAt 29 (fun d v => .int .i64 (deepV d v)) d := by
  induction d with
  | zero => intro N p v deep w hv; exact hv.elim
  | succ d ih => exact depthOf_succ d ih
theorem known_any (d : Nat) : PAt 31 (fun d v => .bool (knownV d v)) d := by
  induction d with
  | zero => intro N p v deep w hv; exact hv.elim
  | succ d ih => exact known_succ d ih
end Go.Proofs.Ytlhcfipfkodlfaa
/-
  What the laws of a value's count, depth and knownness lean on besides; no statement is proved here.
-/
namespace Go.Proofs.Ytlhcfipfkodlfaa
open Go.RowKit
set_option linter.unusedVariables false

theorem okB_parts {d : Nat} {v : Vl d} (h : okB d v = true) : goodB d v 1 = true ∧ partsV d v ≤ 40 := by
  unfold okB at h
  simp only [Bool.and_eq_true, decide_eq_true_eq] at h
  exact h

/-- What a call has made for itself can be read by whoever comes behind it. -/
theorem VOwn.below {w w' : World} {d : Nat} {c : Value × Value × Value × Value × Value} {v : Vl d} {B : List Nat} (h : VOwn w d c v B) (hb : Below w.heap.size w w') : VSeg (fun b => b < w.heap.size) w' d c v :=
  VSeg.agree (agree_below hb) d (VSeg.mono (fun b hb => VOwn.lt d h b hb) d (VOwn.seg d h))
end Go.Proofs.Ytlhcfipfkodlfaa
/-
  FnExactValParts answers true, whatever value it is handed; it makes new memory and turns nothing old.
-/
namespace Go.Proofs.Ytlhcfipfkodlfaa
open Go.RowKit
set_option linter.unusedVariables false
set_option linter.unusedSimpArgs false

set_option maxHeartbeats 1600000 in
theorem impl_ValParts_any (d N : Nat) (c0 c1 c2 c3 c4 : Value) (v : Vl d) (w : World) (hv : VSeg (fun b => b < N) w d (c0, c1, c2, c3, c4) v) (hN : N ≤ w.heap.size) :
    Calls Try.prog 9 #[.agg #[c0, c1, c2, c3, c4]] w fun e w' => e = .returned (.int .i64 (ansValParts d v)) ∧ Below w.heap.size w w' := by
  have b0 : ∀ o : Obj, Below w.heap.size w (w.alloc o) := fun o => (Below.refl _ _).alloc (Nat.le_refl _) o
  have HC : Hid (∀ o : Obj, Calls Try.prog 23 #[.agg #[c0, c1, c2, c3, c4]] (w.alloc o) (PartEnd d v (w.alloc o))) := fun o =>
    partOf_any d N c0 c1 c2 c3 c4 v (w.alloc o) (VSeg.agree (agree_below ((b0 o).mono hN)) d hv) (by have := (b0 o).size; omega)
  have Hb := hide' b0
  clear b0
  go_enter Try.func9, Try.ntmps9
  go_wp2_with fail
  refine (HC.out _).mono ?_
  rintro e w1 ⟨b1, hcase⟩
  have B1 := hide' (Below.on (Hb.out _) b1)
  rcases hcase with ⟨p, rfl, h1, h2⟩ | ⟨rfl, h1⟩
  · have hok := okB_parts h1
    have HF : Hid (Calls Try.prog 24 #[p] w1 fun e w' => e = .returned (.int .i64 (partsV d v)) ∧ Below w1.heap.size w1 w') := countParts_any d w1.heap.size p v 1 w1 (PSeg.carry (fun b hb => hb.2) (fun b _ => rfl) d h2) (Nat.le_refl _) hok.1 hok.2
    have H1 : Hid (ansValParts d v = partsV d v) := by show ansValParts d v = partsV d v; simp [ansValParts, h1]
    clear b1 h1 h2 hok
    go_wp2_with fail
    refine HF.out.mono ?_
    rintro e w2 ⟨rfl, b2⟩
    have B2 := Below.on B1.out b2
    go_wp2
    go_ret
    exact ⟨by rw [H1.out]; rfl, B2⟩
  · have H1 : Hid (ansValParts d v = 0) := by show ansValParts d v = 0; simp [ansValParts, h1]
    clear b1 h1
    go_wp2
    go_ret
    exact ⟨by rw [H1.out]; rfl, B1.out⟩

set_option maxHeartbeats 1600000 in
theorem walk_FnExactValParts (d : Nat) (c0 c1 c2 c3 c4 : Value) (v : Vl d) (w : World) (hv : VSeg (fun b => b < w.heap.size) w d (c0, c1, c2, c3, c4) v) :
    Calls Try.prog 3 #[.agg #[c0, c1, c2, c3, c4]] w fun e w' => e = .returned (.bool true) ∧ Below w.heap.size w w' := by
  have b0 : ∀ o : Obj, Below w.heap.size w (w.alloc o) := fun o => (Below.refl _ _).alloc (Nat.le_refl _) o
  have HV : Hid (∀ wx, Below w.heap.size w wx → VSeg (fun b => b < w.heap.size) wx d (c0, c1, c2, c3, c4) v) := fun wx hb => VSeg.agree (agree_below hb) d hv
  have HS : Hid (∀ wx, Below w.heap.size w wx → Calls Try.prog 6 #[.agg #[c0, c1, c2, c3, c4], .int .i64 1048576] wx fun e w' => e = .returned (.int .i64 (less 1048576 (szV d v))) ∧ Below wx.heap.size wx w') := fun wx hb =>
    szValue_any d w.heap.size (c0, c1, c2, c3, c4) v 1048576 wx (HV.out wx hb) hb.size (by omega) (by omega)
  have hbox : ∀ o wx, Below (w.alloc o).heap.size (w.alloc o) wx → wx.heap[w.heap.size]? = some o := fun o wx h => box_row h
  have Hbox := hide' hbox
  have Hb := hide' b0
  obtain ⟨ck, cn, a2, l2, p2, a3, l3, p3, a4, l4, p4, rfl, rfl, rfl, rfl, rfl⟩ := VSeg.form d hv
  clear b0 hbox hv
  by_cases hz : (1048576 : Int) < szV d v
  · have hl : less 1048576 (szV d v) = -1 := less_no _ _ hz
    rw [hl] at HS
    clear hl
    go_enter Try.func3, Try.ntmps3
    go_wp2_with fail
    refine (HS.out _ (Hb.out _)).mono ?_
    rintro e w1 ⟨rfl, b1⟩
    have B1 := Below.on (Hb.out _) b1
    clear b1
    go_wp2
    go_ret
    exact ⟨rfl, B1⟩
  · have hl : less 1048576 (szV d v) = 1048576 - szV d v := less_yes _ _ hz
    rw [hl] at HS
    have hz0 : 0 ≤ (1048576 : Int) - szV d v := by omega
    have hz1 : (1048576 : Int) - szV d v ≤ 1048576 := by omega
    have HZ : Hid (szV d v ≤ 1048576) := by show szV d v ≤ 1048576; omega
    have HT : Hid (∀ wx, Below w.heap.size w wx → Calls Try.prog 8 #[.agg #[.int .i64 ck, .int .i64 cn, .slice a2 l2 p2, .slice a3 l3 p3, .slice a4 l4 p4]] wx fun e w' => ∃ c0 c1 c2 c3 c4, e = .returned (.agg #[c0, c1, c2, c3, c4]) ∧ ∃ B, VOwn w' d (c0, c1, c2, c3, c4) v B ∧ (∀ b ∈ B, wx.heap.size ≤ b ∧ b < w'.heap.size) ∧ Below wx.heap.size wx w') := fun wx hb =>
      toValue_any d w.heap.size (.int .i64 ck, .int .i64 cn, .slice a2 l2 p2, .slice a3 l3 p3, .slice a4 l4 p4) v wx (HV.out wx hb) hb.size HZ.out
    have HEq : Hid (∀ (N : Nat) (c c' : Value × Value × Value × Value × Value) (wx : World), VSeg (fun b => b < N) wx d c v → VSeg (fun b => b < N) wx d c' v → N ≤ wx.heap.size → Calls Try.prog 10 #[.agg #[c.1, c.2.1, c.2.2.1, c.2.2.2.1, c.2.2.2.2], .agg #[c'.1, c'.2.1, c'.2.2.1, c'.2.2.2.1, c'.2.2.2.2]] wx fun e w' => e = .returned (.bool true) ∧ Below wx.heap.size wx w') := fun N c c' wx h1 h2 h3 => eqValue_any d N c c' v wx h1 h2 h3 HZ.out
    generalize szV d v = sz at *
    clear hl hz HV
    go_enter Try.func3, Try.ntmps3
    go_wp2_with fail
    refine (HS.out _ (Hb.out _)).mono ?_
    rintro e w1 ⟨rfl, b1⟩
    have B1 := Below.on (Hb.out _) b1
    have hr1 := Hbox.out _ _ b1
    obtain ⟨y0, y1, y2, y3, y4, _⟩ := row5 hr1
    have HT1 := hide' (HT.out w1 B1)
    have Hb1 := hide' b1
    have HB1 := hide' B1
    clear b1 B1 hr1 HS
    go_wp2_with fail
    refine HT1.out.mono ?_
    rintro e w2 ⟨u0, u1, u2, u3, u4, rfl, B, hO2, hB2, b2⟩
    have hS2 := hide' (spec_ValParts_any d w2.heap.size u0 u1 u2 u3 u4 v w2 (hO2.below (Below.refl _ _)) (Nat.le_refl _))
    have b12 := Below.on Hb1.out b2
    have B2 := hide' (Below.on HB1.out b2)
    clear HT1 Hb1 HB1 hO2 hB2 b2 y0 y1 y2 y3 y4
    go_wp2_with fail
    refine hS2.out.mono ?_
    rintro e w3 ⟨rfl, b3⟩
    have b13 := Below.on b12 b3
    have B3 := hide' (Below.on B2.out b3)
    obtain ⟨y0, y1, y2, y3, y4, _⟩ := row5 (Hbox.out _ _ b13)
    have HT3 := hide' (HT.out w3 B3.out)
    have Hb3 := hide' b13
    clear b12 b3 b13 B2 hS2
    go_wp2_with fail
    refine HT3.out.mono ?_
    rintro e w4 ⟨x0, x1, x2, x3, x4, rfl, B', hO4, hB4, b4⟩
    obtain ⟨xk, xn, s2, m2, q2, s3, m3, q3, s4, m4, q4, rfl, rfl, rfl, rfl, rfl⟩ := VOwn.form d hO4
    have b14 := Below.on Hb3.out b4
    have B4 := Below.on B3.out b4
    have bal : Below w4.heap.size w4 (w4.alloc (.cells #[.int .i64 xk, .int .i64 xn, .slice s2 m2 q2, .slice s3 m3 q3, .slice s4 m4 q4] 31)) := (Below.refl _ _).alloc (Nat.le_refl _) _
    have hI4 := hide' (impl_ValParts_any d w4.heap.size _ _ _ _ _ v _ (hO4.below bal) bal.size)
    have HO4 := hide' hO4
    have HB4 := hide' B4
    have Hb4 := hide' b14
    have Hbal := hide' bal
    clear hO4 hB4 b4 b14 B4 bal HT3 B3 Hb3 y0 y1 y2 y3 y4
    go_wp2_with fail
    refine hI4.out.mono ?_
    rintro e w5 ⟨rfl, b5⟩
    have hx5 : w5.heap[w4.heap.size]? = some (.cells #[.int .i64 xk, .int .i64 xn, .slice s2 m2 q2, .slice s3 m3 q3, .slice s4 m4 q4] 31) := box_row b5
    have b15 := Below.on (Below.on Hb4.out Hbal.out) b5
    have b45 := Below.on Hbal.out b5
    have B5 := Below.on HB4.out b45
    have hz5 : w4.heap.size < w5.heap.size := (Array.getElem?_eq_some_iff.1 hx5).1
    obtain ⟨y0, y1, y2, y3, y4, _⟩ := row5 (Hbox.out _ _ b15)
    obtain ⟨v0, v1, v2, v3, v4, _⟩ := row5 hx5
    have HTd : Hid (Calls Try.prog 8 #[.agg #[.int .i64 ck, .int .i64 cn, .slice a2 l2 p2, .slice a3 l3 p3, .slice a4 l4 p4]] w5.drew fun e w6 => ∃ z0 z1 z2 z3 z4, e = .returned (.agg #[z0, z1, z2, z3, z4]) ∧
        (w6.cell? ⟨w4.heap.size, 0, none⟩ = some (.int .i64 xk) ∧ w6.cell? ⟨w4.heap.size, 1, none⟩ = some (.int .i64 xn) ∧ w6.cell? ⟨w4.heap.size, 2, none⟩ = some (.slice s2 m2 q2) ∧ w6.cell? ⟨w4.heap.size, 3, none⟩ = some (.slice s3 m3 q3) ∧ w6.cell? ⟨w4.heap.size, 4, none⟩ = some (.slice s4 m4 q4)) ∧
        Hid (Calls Try.prog 10 #[.agg #[.int .i64 xk, .int .i64 xn, .slice s2 m2 q2, .slice s3 m3 q3, .slice s4 m4 q4], .agg #[z0, z1, z2, z3, z4]] w6 fun e w7 => e = .returned (.bool true) ∧ Below w.heap.size w w7)) := by
      refine (HT.out w5.drew B5.drew).mono ?_
      rintro e w6 ⟨z0, z1, z2, z3, z4, rfl, B6, hO6, hB6, b6⟩
      have hx6 := (b6.block w4.heap.size hz5).trans hx5
      obtain ⟨f0, f1, f2, f3, f4, _⟩ := row5 hx6
      have b46 : Below w4.heap.size w4 w6 := Below.on b45.drew b6
      have B6' : Below w.heap.size w w6 := Below.on B5.drew b6
      refine ⟨z0, z1, z2, z3, z4, rfl, ⟨f0, f1, f2, f3, f4⟩, ?_⟩
      exact (HEq.out w6.heap.size (.int .i64 xk, .int .i64 xn, .slice s2 m2 q2, .slice s3 m3 q3, .slice s4 m4 q4) (z0, z1, z2, z3, z4) w6 (VSeg.mono (fun b hb => Nat.lt_of_lt_of_le hb b46.size) d (HO4.out.below b46)) (hO6.below (Below.refl _ _)) (Nat.le_refl _)).mono fun e w7 h => ⟨h.1, Below.on B6' h.2⟩
    have Hx5 := hide' hx5
    have Hb45 := hide' b45
    have HB5 := hide' B5
    clear hI4 hx5 b5 b15 b45 B5 Hbal HB4 Hb4
    generalize ansValParts d v = ok at *
    go_wp2_with fail
    go_region_with (first
      | (go_at_call 8; refine HTd.out.mono ?_; rintro e w6 ⟨z0, z1, z2, z3, z4, rfl, ⟨f0, f1, f2, f3, f4⟩, hE6⟩)
      | (go_at_call 10; refine hE6.out.mono ?_; rintro e w7 ⟨rfl, B7⟩))
    all_goals
      go_wp2
      go_ret
      exact ⟨rfl, B7⟩
end Go.Proofs.Ytlhcfipfkodlfaa
/-
  A text that came in, as its reading has it, can be read: 'TSeg'.
-/
namespace Go.Proofs.Ytlhcfipfkodlfaa
open Go.ChangeShapes Go.WideShapes Go.ChangeAt Go.RowKit
set_option linter.unusedVariables false
set_option linter.unusedSimpArgs false
set_option maxRecDepth 100000

theorem cellsT : Try.prog.cellsOf 22 = 1 := by kernel_rfl
theorem cellsI : Try.prog.cellsOf 3 = 1 := by kernel_rfl

theorem list_of {α : Type} {Q : Nat → α → Prop} : ∀ n, (∀ i, i < n → ∃ x, Q i x) → ∃ l : List α, l.length = n ∧ ∀ i (h : i < l.length), Q i l[i]
  | 0, _ => ⟨[], rfl, fun i h => by simp at h⟩
  | n + 1, hq => by
    obtain ⟨l, hl, hi⟩ := list_of n (fun i hi => hq i (by omega))
    obtain ⟨x, hx⟩ := hq n (by omega)
    refine ⟨l ++ [x], by simp [hl], fun i h => ?_⟩
    by_cases e : i < l.length
    · rw [List.getElem_append_left e]; exact hi i e
    · have : i = n := by simp at h; omega
      subst this
      rw [List.getElem_append_right (by omega)]
      simpa using hx

variable {H : Type} {enc : TypeId × Value → H} {w : World}

theorem read_text {fuel : Nat} {cs : List Value} {x : DataW H × List MemPlace} (h : DataW.trod enc Try.prog w 0 (fun _ => true) true fuel 22 cs = some x) : ∃ u xs, cs = [u] ∧ TSeg (fun b => b < w.heap.size) w u xs := by
  rcases open_ints Try.underlying22 Try.underlying5 (by kernel_rfl) h with ⟨rfl, _⟩ | ⟨a, len, cap, zs, rfl, _, hl, hm, hz, _, hcell, hwz⟩
  · exact ⟨_, [], rfl, none, 0, rfl, ⟨by simp, .inl rfl⟩, Nat.le_refl _, Nat.zero_le _, fun _ => rfl, by simp⟩
  · obtain ⟨xs, e, hs, h1, h2, h3⟩ := seg_of_row (w := w) (a := some a) (len := len) (cap := cap) (zs := zs) (.inr ⟨a, rfl, hl, hm, by simpa using hz, hcell, hwz⟩)
    subst e
    exact ⟨_, xs, rfl, some a, cap, rfl, hs, h1, h2, h3, hs.lt⟩

end Go.Proofs.Ytlhcfipfkodlfaa
/-
  A value that came in, as its reading has it, can be read: 'VSeg'.
-/
namespace Go.Proofs.Ytlhcfipfkodlfaa
open Go.ChangeShapes Go.WideShapes Go.ChangeAt Go.RowKit
set_option linter.unusedVariables false
set_option linter.unusedSimpArgs false
set_option maxRecDepth 100000

theorem cellsK : Try.prog.cellsOf 23 = 1 := by kernel_rfl
theorem cellsL : Try.prog.cellsOf 24 = 1 := by kernel_rfl
theorem cellsV : Try.prog.cellsOf 26 = 5 := by kernel_rfl
variable {H : Type} {enc : TypeId × Value → H} {w : World}

theorem read_keys {fuel : Nat} {cs : List Value} {x : DataW H × List MemPlace} (h : DataW.trod enc Try.prog w 0 (fun _ => true) true fuel 23 cs = some x) : ∃ u ks, cs = [u] ∧ KSeg (fun b => b < w.heap.size) w u ks := by
  rcases DataW.trod_slice Try.underlying23 h with ⟨rfl, _⟩ | ⟨a, len, cap, elems, rest, n, _, rfl, _, hb, hl, hm, hlen, hel, hsp, hns⟩
  · exact ⟨_, [], rfl, none, 0, rfl, Nat.le_refl _, Nat.zero_le _, fun _ => rfl, .inl rfl⟩
  · have hq : ∀ i, i < len → ∃ xs : List Int, ∃ u, w.cell? (a.add i) = some u ∧ TSeg (fun b => b < w.heap.size) w u xs := by
      intro i hi
      have h1 := hel i hi
      rw [cellsT, Nat.mul_one, List.getElem?_eq_getElem (by omega)] at h1
      obtain ⟨cs', hc, ht⟩ := Option.bind_eq_some_iff.1 h1
      obtain ⟨u, xs, rfl, hT⟩ := read_text ht
      exact ⟨xs, u, cell_of_cells?_one hc, hT⟩
    obtain ⟨ks, hkl, hks⟩ := list_of len hq
    subst hkl
    refine ⟨_, ks, rfl, some a, cap, rfl, hl, hm, by simp, ?_⟩
    by_cases he : ks = []
    · exact .inl he
    · have hp : 0 < ks.length := List.length_pos_iff.2 he
      obtain ⟨b, off, spot⟩ := a
      obtain ⟨u0, hu0, _⟩ := hks 0 hp
      have hspot : spot = none := by simpa [Addr.add] using World.cell?_spot hu0
      subst hspot
      refine .inr ⟨b, off, rfl, ?_, fun i hi => ?_⟩
      · have := World.block_lt_of_cell? w _ hu0
        simpa [Addr.add] using this
      · obtain ⟨u, hu, hT⟩ := hks i hi
        rw [Addr.add_lit] at hu
        exact ⟨u, hu, by simpa [List.getD_eq_getElem?_getD, hi] using hT⟩

theorem read_five {fuel : Nat} {cs : List Value} {x : DataW H × List MemPlace} (h : DataW.trod enc Try.prog w 0 (fun _ => true) true (fuel + 1) 26 cs = some x) :
    ∃ c0 c1 c2 c3 c4 y0 y1 y2 y3 y4, cs = [c0, c1, c2, c3, c4] ∧ DataW.trod enc Try.prog w 0 (fun _ => true) true fuel 3 [c0] = some y0 ∧ DataW.trod enc Try.prog w 0 (fun _ => true) true fuel 3 [c1] = some y1 ∧
      DataW.trod enc Try.prog w 0 (fun _ => true) true fuel 22 [c2] = some y2 ∧ DataW.trod enc Try.prog w 0 (fun _ => true) true fuel 23 [c3] = some y3 ∧ DataW.trod enc Try.prog w 0 (fun _ => true) true fuel 24 [c4] = some y4 := by
  unfold DataW.trod at h
  rw [Try.underlying26] at h
  simp only [cellsV] at h
  split at h
  · next hlen =>
    match cs, hlen with
    | [c0, c1, c2, c3, c4], _ =>
      simp [cellsT, cellsK, cellsL, cellsI, List.mapM_cons, Option.bind_eq_some_iff] at h
      obtain ⟨a0, b0, h0, _, ⟨a1, b1, h1, _, ⟨a2, b2, h2, _, ⟨a3, b3, h3, _, ⟨a4, b4, h4, _⟩, _⟩, _⟩, _⟩, _⟩ := h
      exact ⟨c0, c1, c2, c3, c4, _, _, _, _, _, rfl, h0, h1, h2, h3, h4⟩
  · simp at h

/-- How deep what is read with that fuel is at most. -/
def dep : Nat → Nat
  | 0 => 0
  | 1 => 0
  | f + 2 => dep f + 1

def ReadAt (enc : TypeId × Value → H) (w : World) (f : Nat) : Prop := ∀ (cs : List Value) (x : DataW H × List MemPlace), DataW.trod enc Try.prog w 0 (fun _ => true) true f 26 cs = some x →
  ∃ (c0 c1 c2 c3 c4 : Value) (v : Vl (dep f)), cs = [c0, c1, c2, c3, c4] ∧ VSeg (fun b => b < w.heap.size) w (dep f) (c0, c1, c2, c3, c4) v

theorem read_step (f : Nat) (ih : ReadAt enc w f) : ReadAt enc w (f + 2) := by
  intro cs x h
  obtain ⟨c0, c1, c2, c3, c4, y0, y1, y2, y3, y4, rfl, h0, h1, h2, h3, h4⟩ := read_five h
  obtain ⟨n0, e0, _, _⟩ := DataW.trod_int Try.underlying3 h0
  obtain ⟨n1, e1, _, _⟩ := DataW.trod_int Try.underlying3 h1
  obtain ⟨u2, xs, e2, hT⟩ := read_text h2
  obtain ⟨u3, ks, e3, hK⟩ := read_keys h3
  simp at e0 e1 e2 e3
  subst e0 e1 e2 e3
  have hL : ∃ l : List (Vl (dep f)), LSeg (fun b => b < w.heap.size) w (dep f) c4 l := by
    rcases DataW.trod_slice Try.underlying24 h4 with ⟨e, _⟩ | ⟨a, len, cap, elems, rest, n, hn, e, _, hb, hl, hm, hlen, hel, hsp, hns⟩
    · simp at e
      subst e
      exact ⟨[], none, 0, rfl, Nat.le_refl _, Nat.zero_le _, fun _ => rfl, .inl rfl⟩
    · simp at e
      subst e
      obtain rfl : n = f := by omega
      have hq : ∀ i, i < len → ∃ v : Vl (dep n), ∃ c0 c1 c2 c3 c4, (∀ j, j < 5 → w.cell? ((a.add (i * 5)).add j) = [c0, c1, c2, c3, c4][j]?) ∧ VSeg (fun b => b < w.heap.size) w (dep n) (c0, c1, c2, c3, c4) v := by
        intro i hi
        have h1 := hel i hi
        rw [cellsV, List.getElem?_eq_getElem (by omega)] at h1
        obtain ⟨cs', hc, ht⟩ := Option.bind_eq_some_iff.1 h1
        obtain ⟨d0, d1, d2, d3, d4, v, rfl, hv⟩ := ih cs' _ ht
        exact ⟨v, d0, d1, d2, d3, d4, (World.cells?_some hc).2.2, hv⟩
      obtain ⟨l, hll, hls⟩ := list_of len hq
      subst hll
      refine ⟨l, some a, cap, rfl, hl, hm, by simp, ?_⟩
      by_cases he : l = []
      · exact .inl he
      · have hp : 0 < l.length := List.length_pos_iff.2 he
        obtain ⟨b, off, spot⟩ := a
        obtain ⟨d0, d1, d2, d3, d4, hu0, _⟩ := hls 0 hp
        have hu := hu0 0 (by omega)
        simp [Addr.add] at hu
        have hspot : spot = none := by simpa using World.cell?_spot hu
        subst hspot
        refine .inr ⟨b, off, rfl, World.block_lt_of_cell? w _ hu, fun i hi => ?_⟩
        obtain ⟨d0, d1, d2, d3, d4, hu, hv⟩ := hls i hi
        have e : ∀ j, j < 5 → w.cell? ⟨b, off + i * 5 + j, none⟩ = [d0, d1, d2, d3, d4][j]? := by
          intro j hj
          have := hu j hj
          rw [Addr.add_lit, Addr.add_lit] at this
          exact this
        exact ⟨(d0, d1, d2, d3, d4), ⟨e 0 (by omega), e 1 (by omega), e 2 (by omega), e 3 (by omega), e 4 (by omega)⟩, hv⟩
  obtain ⟨l, hL⟩ := hL
  exact ⟨_, _, _, _, _, (n0, n1, xs, ks, l), rfl, (VSeg_succ _ _ _ _ _).2 ⟨rfl, rfl, hT, hK, hL⟩⟩

theorem read_both (f : Nat) : ReadAt enc w f ∧ ReadAt enc w (f + 1) := by
  induction f with
  | zero =>
    refine ⟨fun cs x h => by simp [DataW.trod] at h, fun cs x h => ?_⟩
    obtain ⟨_, _, _, _, _, _, _, _, _, _, _, h0, _⟩ := read_five h
    simp [DataW.trod] at h0
  | succ f ih => exact ⟨ih.2, read_step f ih.1⟩

/-- A value that came in. -/
theorem read_value {v : Value} {d : DataW H} {ps : List MemPlace} (h : DataW.Trod enc Try.prog w 0 (fun _ => true) true 26 v d ps) :
    ∃ c0 c1 c2 c3 c4 n, v = .agg #[c0, c1, c2, c3, c4] ∧ ∃ x : Vl n, VSeg (fun b => b < w.heap.size) w n (c0, c1, c2, c3, c4) x := by
  obtain ⟨fuel, hf⟩ := h
  obtain ⟨c0, c1, c2, c3, c4, x, e, hx⟩ := (read_both fuel).1 _ _ hf
  refine ⟨c0, c1, c2, c3, c4, dep fuel, ?_, x, hx⟩
  cases v <;> simp [Value.cells] at e
  rename_i cs
  cases cs
  simp at e
  simp [e]
end Go.Proofs.Ytlhcfipfkodlfaa
