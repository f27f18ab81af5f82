/-
  known of a part at every depth: a method of an interface value, by the value's own type.
-/
import Derived.Test.YtdjalkaoiklncaaCnts
namespace Go.Proofs.Ytdjalkaoiklncaa
open Go.RowKit Go.Shelf
set_option linter.unusedVariables false
set_option linter.unusedSimpArgs false

theorem meth_nullPart (x : Value) (w : World) : (method 236 62 x "loop.example/g00407/impl.kind").run Try.prog w = .ok (94, x) w := by kernel_rfl
theorem calls_nullPart (args : Array Value) (w : World) : (callFunc 94 args).run Try.prog w = .ok (.enter 94 args) w := enters_of Try.func94 (by kernel_rfl) rfl args w
theorem meth_unknownPart (x : Value) (w : World) : (method 236 63 x "loop.example/g00407/impl.kind").run Try.prog w = .ok (95, x) w := by kernel_rfl
theorem calls_unknownPart (args : Array Value) (w : World) : (callFunc 95 args).run Try.prog w = .ok (.enter 95 args) w := enters_of Try.func95 (by kernel_rfl) rfl args w
theorem meth_boolPart (x : Value) (w : World) : (method 236 65 x "loop.example/g00407/impl.kind").run Try.prog w = .ok (96, x) w := by kernel_rfl
theorem calls_boolPart (args : Array Value) (w : World) : (callFunc 96 args).run Try.prog w = .ok (.enter 96 args) w := enters_of Try.func96 (by kernel_rfl) rfl args w
theorem meth_intPart (x : Value) (w : World) : (method 236 66 x "loop.example/g00407/impl.kind").run Try.prog w = .ok (97, x) w := by kernel_rfl
theorem calls_intPart (args : Array Value) (w : World) : (callFunc 97 args).run Try.prog w = .ok (.enter 97 args) w := enters_of Try.func97 (by kernel_rfl) rfl args w
theorem meth_textPart (x : Value) (w : World) : (method 236 68 x "loop.example/g00407/impl.kind").run Try.prog w = .ok (98, x) w := by kernel_rfl
theorem calls_textPart (args : Array Value) (w : World) : (callFunc 98 args).run Try.prog w = .ok (.enter 98 args) w := enters_of Try.func98 (by kernel_rfl) rfl args w
theorem meth_listPart (x : Value) (w : World) : (method 236 72 x "loop.example/g00407/impl.kind").run Try.prog w = .ok (99, x) w := by kernel_rfl
theorem calls_listPart (args : Array Value) (w : World) : (callFunc 99 args).run Try.prog w = .ok (.enter 99 args) w := enters_of Try.func99 (by kernel_rfl) rfl args w
theorem meth_mapPart (x : Value) (w : World) : (method 236 75 x "loop.example/g00407/impl.kind").run Try.prog w = .ok (100, x) w := by kernel_rfl
theorem calls_mapPart (args : Array Value) (w : World) : (callFunc 100 args).run Try.prog w = .ok (.enter 100 args) w := enters_of Try.func100 (by kernel_rfl) rfl args w

set_option maxHeartbeats 800000 in
theorem kind_nullPart (w : World) : Calls Try.prog 94 #[.agg #[]] w fun e w' => e = .returned (.int .i64 0) ∧ Below w.heap.size w w' := by
  have Hb : Hid (∀ o : Obj, Below w.heap.size w (w.alloc o)) := fun o => (Below.refl _ _).alloc (Nat.le_refl _) o
  go_enter Try.func94, Try.ntmps94
  go_wp2
  go_ret
  exact ⟨rfl, Hb.out _⟩
set_option maxHeartbeats 800000 in
theorem kind_unknownPart (w : World) : Calls Try.prog 95 #[.agg #[]] w fun e w' => e = .returned (.int .i64 6) ∧ Below w.heap.size w w' := by
  have Hb : Hid (∀ o : Obj, Below w.heap.size w (w.alloc o)) := fun o => (Below.refl _ _).alloc (Nat.le_refl _) o
  go_enter Try.func95, Try.ntmps95
  go_wp2
  go_ret
  exact ⟨rfl, Hb.out _⟩
set_option maxHeartbeats 800000 in
theorem kind_boolPart (n : Int) (w : World) : Calls Try.prog 96 #[.agg #[.int .i64 n]] w fun e w' => e = .returned (.int .i64 1) ∧ Below w.heap.size w w' := by
  have Hb : Hid (∀ o : Obj, Below w.heap.size w (w.alloc o)) := fun o => (Below.refl _ _).alloc (Nat.le_refl _) o
  go_enter Try.func96, Try.ntmps96
  go_wp2
  go_ret
  exact ⟨rfl, Hb.out _⟩
set_option maxHeartbeats 800000 in
theorem kind_intPart (n : Int) (w : World) : Calls Try.prog 97 #[.agg #[.int .i64 n]] w fun e w' => e = .returned (.int .i64 2) ∧ Below w.heap.size w w' := by
  have Hb : Hid (∀ o : Obj, Below w.heap.size w (w.alloc o)) := fun o => (Below.refl _ _).alloc (Nat.le_refl _) o
  go_enter Try.func97, Try.ntmps97
  go_wp2
  go_ret
  exact ⟨rfl, Hb.out _⟩
set_option maxHeartbeats 800000 in
theorem kind_textPart (s : ByteArray) (w : World) : Calls Try.prog 98 #[.agg #[.string s]] w fun e w' => e = .returned (.int .i64 3) ∧ Below w.heap.size w w' := by
  have Hb : Hid (∀ o : Obj, Below w.heap.size w (w.alloc o)) := fun o => (Below.refl _ _).alloc (Nat.le_refl _) o
  go_enter Try.func98, Try.ntmps98
  go_wp2
  go_ret
  exact ⟨rfl, Hb.out _⟩
set_option maxHeartbeats 800000 in
theorem kind_listPart (a : Option Addr) (n c : Nat) (w : World) : Calls Try.prog 99 #[.agg #[.slice a n c]] w fun e w' => e = .returned (.int .i64 4) ∧ Below w.heap.size w w' := by
  have Hb : Hid (∀ o : Obj, Below w.heap.size w (w.alloc o)) := fun o => (Below.refl _ _).alloc (Nat.le_refl _) o
  go_enter Try.func99, Try.ntmps99
  go_wp2
  go_ret
  exact ⟨rfl, Hb.out _⟩
set_option maxHeartbeats 800000 in
theorem kind_mapPart (b : Nat) (w : World) : Calls Try.prog 100 #[.agg #[.map (some b)]] w fun e w' => e = .returned (.int .i64 5) ∧ Below w.heap.size w w' := by
  have Hb : Hid (∀ o : Obj, Below w.heap.size w (w.alloc o)) := fun o => (Below.refl _ _).alloc (Nat.le_refl _) o
  go_enter Try.func100, Try.ntmps100
  go_wp2
  go_ret
  exact ⟨rfl, Hb.out _⟩

/-- What a call of kind leans on. -/
def KindOf (pt : TypeId) (px : Value) (vk : Int) : Prop := ∃ f : Nat, (∀ w, (method 236 pt px "loop.example/g00407/impl.kind").run Try.prog w = .ok (f, px) w) ∧ (∀ args w, (callFunc f args).run Try.prog w = .ok (.enter f args) w) ∧ ∀ w, Calls Try.prog f #[px] w fun e w' => e = .returned (.int .i64 vk) ∧ Below w.heap.size w w'

theorem kind_of {R : Nat → Prop} {w : World} {d : Nat} {pt : TypeId} {px : Value} {v : Vl (d + 1)} (h : PSeg R w (d + 1) (.iface pt px) v) : KindOf pt px v.1 := by
  rcases h with ⟨hk, e⟩ | ⟨hk, e⟩ | ⟨hk, e⟩ | ⟨hk, e⟩ | ⟨hk, e⟩ | ⟨hk, a, cap, e, _⟩ | ⟨hk, b, ps, e, _⟩ <;>
    simp only [Value.iface.injEq] at e <;> obtain ⟨rfl, rfl⟩ := e <;> rw [hk]
  · exact ⟨_, meth_nullPart _, calls_nullPart, kind_nullPart⟩
  · exact ⟨_, meth_unknownPart _, calls_unknownPart, kind_unknownPart⟩
  · exact ⟨_, meth_boolPart _, calls_boolPart, kind_boolPart _⟩
  · exact ⟨_, meth_intPart _, calls_intPart, kind_intPart _⟩
  · exact ⟨_, meth_textPart _, calls_textPart, kind_textPart _⟩
  · exact ⟨_, meth_listPart _, calls_listPart, kind_listPart _ _ _⟩
  · exact ⟨_, meth_mapPart _, calls_mapPart, kind_mapPart _⟩

set_option maxHeartbeats 1600000 in
set_option maxRecDepth 100000 in
theorem known_succ (d : Nat) (ih : PAt 31 (fun d v => .bool (knownV d v)) d) : PAt 31 (fun d v => .bool (knownV d v)) (d + 1) := by
  intro N p v deep w hp hN hg hn
  obtain ⟨pt, px, rfl⟩ := hp.shape
  obtain ⟨f, hm, hcf, hkind⟩ := kind_of hp
  obtain ⟨vk, vn, vs, vK, vL⟩ := v
  simp only at hkind
  have hgd := ((good_succ _ _ _ _ _ _ _).1 hg).2.2
  have hps := parts_succ d vk vn vs vK vL
  have hlen : vL.length ≤ 40 := by have := pre_ge d vL vL.length (Nat.le_refl _); omega
  have HK := hide' (kids_any d N _ _ deep w hp hN hg hlen)
  have HI := hide' ih
  have HG := hide' hgd
  have HKp : Hid (∀ k (hk : k < vL.length), partsV d vL[k] ≤ 40) := fun k hk => (kid_parts hk hn).1
  have HNo : Hid (∀ k (hk : k < vL.length), knownV d vL[k] = false → knownV (d + 1) (vk, vn, vs, vK, vL) = false) := fun k hk h => known_no hk h
  have HYes : Hid (vk ≠ 6 → (∀ k (hk : k < vL.length), knownV d vL[k] = true) → knownV (d + 1) (vk, vn, vs, vK, vL) = true) := fun h1 h2 => known_yes h1 h2
  have HSix : Hid (vk = 6 → knownV (d + 1) (vk, vn, vs, vK, vL) = false) := fun h => by
    subst h
    show (!decide ((6 : Int) = 6) && _) = false
    simp
  have HKd := hide' hkind
  clear ih hgd hps hp hg hn hkind
  go_enter Try.func31, Try.ntmps31
  go_wp2_with fail
  refine HK.out.mono ?_
  rintro e w1 ⟨u, rfl, hL, b1⟩
  have HLs := hide' hL
  have Hb1 := hide' b1
  obtain ⟨a, cap, rfl, _⟩ := hL
  clear b1 HK
  go_wp2
  go_loopw [4, 8] (fun _ i wr => ∃ k : Nat, k ≤ vL.length ∧ i = .int .i64 k ∧ (∀ j (hj : j < vL.length), j < k → knownV d vL[j] = true) ∧ Below w1.heap.size w1 wr) (fun _ i _ => vL.length - (intOf i).toNat)
  case atStart => exact ⟨0, Nat.zero_le _, rfl, fun j _ h => by omega, Below.refl _ _⟩
  case round =>
    obtain ⟨k, hk, rfl, hall, hbel⟩ := hrel
    have hsz := hbel.size
    by_cases hlt : k < vL.length
    · have hlt' : (k : Int) < (vL.length : Int) := by omega
      obtain ⟨b, off, qt, qx, rfl, hb, hcell, hq⟩ := (HLs.out.grow hbel).at hlt
      have HC : Hid (Calls Try.prog 31 #[.iface qt qx] wr fun e w' => e = .returned (.bool (knownV d vL[k])) ∧ Below wr.heap.size wr w') := HI.out w1.heap.size _ vL[k] (deep + 1) wr hq hsz (HG.out k hlt) (HKp.out k hlt)
      have HN : Hid (knownV d vL[k] = false → knownV (d + 1) (vk, vn, vs, vK, vL) = false) := HNo.out k hlt
      have HA : Hid (knownV d vL[k] = true → ∀ j (hj : j < vL.length), j < k + 1 → knownV d vL[j] = true) := fun h j hj hjk => by
        by_cases e : j = k
        · subst e; exact h
        · exact hall j hj (by omega)
      generalize knownV d vL[k] = kb at *
      clear hq hall
      go_wp2_with fail
      refine HC.out.mono ?_
      rintro e w2 ⟨rfl, b2⟩
      have B2 := Below.on hbel b2
      have B2' := hide' (Below.on Hb1.out B2)
      clear hcell HC b2
      cases kb
      · have HF := hide' (HN.out rfl)
        go_wp2
        go_ret
        exact ⟨ret_bool (by rw [HF.out]), B2'.out⟩
      · have HF := hide' (HA.out rfl)
        go_wp2
        go_roundw
        case rel => exact ⟨k + 1, by omega, by go_num, HF.out, B2⟩
        case measure => simp [intOf]; omega
    · have hkn : k = vL.length := by omega
      have hkn' : ¬ (k : Int) < (vL.length : Int) := by omega
      have B := hide' (Below.on Hb1.out hbel)
      have HA : Hid (∀ j (hj : j < vL.length), knownV d vL[j] = true) := fun j hj => hall j hj (by omega)
      have HD := hide' (HKd.out wr)
      clear hkn hall
      by_cases h6 : vk = 6
      · have HF := hide' (HSix.out h6)
        have h6' : (vk != 6) = false := by simp [h6]
        go_wp2_with (go_at_fn f; refine HD.out.mono ?_; rintro e w2 ⟨rfl, b2⟩)
        have B2 := Below.on B.out b2
        go_ret
        exact ⟨ret_bool (by rw [HF.out]), B2⟩
      · have HF := hide' (HYes.out h6 HA.out)
        have h6' : (vk != 6) = true := by simp [h6]
        go_wp2_with (go_at_fn f; refine HD.out.mono ?_; rintro e w2 ⟨rfl, b2⟩)
        have B2 := Below.on B.out b2
        go_ret
        exact ⟨ret_bool (by rw [HF.out]), B2⟩

theorem countParts_any (d : Nat) : PAt 24 (fun d v => .int .i64 (partsV d v)) d := by
  induction d with
  | zero => intro N p v deep w hv; exact hv.elim
  | succ d ih => exact countParts_succ d ih
theorem depthOf_any (d : Nat) : PAt 29 (fun d v => .int .i64 (deepV d v)) d := by
  induction d with
  | zero => intro N p v deep w hv; exact hv.elim
  | succ d ih => exact depthOf_succ d ih
theorem known_any (d : Nat) : PAt 31 (fun d v => .bool (knownV d v)) d := by
  induction d with
  | zero => intro N p v deep w hv; exact hv.elim
  | succ d ih => exact known_succ d ih
end Go.Proofs.Ytdjalkaoiklncaa
