/-
  Texts that a law leans on, one behind the other; no statement is proved here.
-/
import Derived.Test.YtlhcfipfkodlfaaPk4
import Derived.Test.YtlhcfipfkodlfaaPk7
import Derived.Test.YtlhcfipfkodlfaaPk6
import Derived.Test.YtlhcfipfkodlfaaPk5
/-
  kids of a part: the parts that stand right in it, in order.
-/
namespace Go.Proofs.Ytlhcfipfkodlfaa
open Go.RowKit
set_option linter.unusedVariables false
set_option linter.unusedSimpArgs false

theorem list_nullPart (x : Value) (w : World) : (Instr.typeAssert (.iface 62 x) 43 72 true).run Try.prog w = .ok (.tuple #[.agg #[.slice none 0 0], .bool false]) w := by kernel_rfl
theorem list_unknownPart (x : Value) (w : World) : (Instr.typeAssert (.iface 63 x) 43 72 true).run Try.prog w = .ok (.tuple #[.agg #[.slice none 0 0], .bool false]) w := by kernel_rfl
theorem list_boolPart (x : Value) (w : World) : (Instr.typeAssert (.iface 65 x) 43 72 true).run Try.prog w = .ok (.tuple #[.agg #[.slice none 0 0], .bool false]) w := by kernel_rfl
theorem list_intPart (x : Value) (w : World) : (Instr.typeAssert (.iface 66 x) 43 72 true).run Try.prog w = .ok (.tuple #[.agg #[.slice none 0 0], .bool false]) w := by kernel_rfl
theorem list_textPart (x : Value) (w : World) : (Instr.typeAssert (.iface 68 x) 43 72 true).run Try.prog w = .ok (.tuple #[.agg #[.slice none 0 0], .bool false]) w := by kernel_rfl
theorem list_mapPart (x : Value) (w : World) : (Instr.typeAssert (.iface 75 x) 43 72 true).run Try.prog w = .ok (.tuple #[.agg #[.slice none 0 0], .bool false]) w := by kernel_rfl
theorem map_nullPart (x : Value) (w : World) : (Instr.typeAssert (.iface 62 x) 43 75 true).run Try.prog w = .ok (.tuple #[.agg #[.map none], .bool false]) w := by kernel_rfl
theorem map_unknownPart (x : Value) (w : World) : (Instr.typeAssert (.iface 63 x) 43 75 true).run Try.prog w = .ok (.tuple #[.agg #[.map none], .bool false]) w := by kernel_rfl
theorem map_boolPart (x : Value) (w : World) : (Instr.typeAssert (.iface 65 x) 43 75 true).run Try.prog w = .ok (.tuple #[.agg #[.map none], .bool false]) w := by kernel_rfl
theorem map_intPart (x : Value) (w : World) : (Instr.typeAssert (.iface 66 x) 43 75 true).run Try.prog w = .ok (.tuple #[.agg #[.map none], .bool false]) w := by kernel_rfl
theorem map_textPart (x : Value) (w : World) : (Instr.typeAssert (.iface 68 x) 43 75 true).run Try.prog w = .ok (.tuple #[.agg #[.map none], .bool false]) w := by kernel_rfl
theorem list_listPart (x : Value) (w : World) : (Instr.typeAssert (.iface 72 x) 43 72 true).run Try.prog w = .ok (.tuple #[x, .bool true]) w := by kernel_rfl
theorem map_mapPart (x : Value) (w : World) : (Instr.typeAssert (.iface 75 x) 43 75 true).run Try.prog w = .ok (.tuple #[x, .bool true]) w := by kernel_rfl

set_option maxHeartbeats 1600000 in
theorem kids_nullPart (x : Value) (w : World) : Calls Try.prog 34 #[.iface 62 x] w fun e w' => e = .returned (.slice none 0 0) ∧ w = w' := by
  have h1 := list_nullPart x w
  have h2 := map_nullPart x w
  go_enter Try.func34, Try.ntmps34
  go_wp2
  go_ret
  exact ⟨rfl, rfl⟩
set_option maxHeartbeats 1600000 in
theorem kids_unknownPart (x : Value) (w : World) : Calls Try.prog 34 #[.iface 63 x] w fun e w' => e = .returned (.slice none 0 0) ∧ w = w' := by
  have h1 := list_unknownPart x w
  have h2 := map_unknownPart x w
  go_enter Try.func34, Try.ntmps34
  go_wp2
  go_ret
  exact ⟨rfl, rfl⟩
set_option maxHeartbeats 1600000 in
theorem kids_boolPart (x : Value) (w : World) : Calls Try.prog 34 #[.iface 65 x] w fun e w' => e = .returned (.slice none 0 0) ∧ w = w' := by
  have h1 := list_boolPart x w
  have h2 := map_boolPart x w
  go_enter Try.func34, Try.ntmps34
  go_wp2
  go_ret
  exact ⟨rfl, rfl⟩
set_option maxHeartbeats 1600000 in
theorem kids_intPart (x : Value) (w : World) : Calls Try.prog 34 #[.iface 66 x] w fun e w' => e = .returned (.slice none 0 0) ∧ w = w' := by
  have h1 := list_intPart x w
  have h2 := map_intPart x w
  go_enter Try.func34, Try.ntmps34
  go_wp2
  go_ret
  exact ⟨rfl, rfl⟩
set_option maxHeartbeats 1600000 in
theorem kids_textPart (x : Value) (w : World) : Calls Try.prog 34 #[.iface 68 x] w fun e w' => e = .returned (.slice none 0 0) ∧ w = w' := by
  have h1 := list_textPart x w
  have h2 := map_textPart x w
  go_enter Try.func34, Try.ntmps34
  go_wp2
  go_ret
  exact ⟨rfl, rfl⟩

set_option maxHeartbeats 1600000 in
theorem kids_list (a : Option Addr) (n c : Nat) (w : World) : Calls Try.prog 34 #[.iface 72 (.agg #[.slice a n c])] w fun e w' => e = .returned (.slice a n c) ∧ Below w.heap.size w w' := by
  have h1 := list_listPart (.agg #[.slice a n c]) w
  have Hb : Hid (∀ o : Obj, Below w.heap.size w (w.alloc o)) := fun o => (Below.refl _ _).alloc (Nat.le_refl _) o
  go_enter Try.func34, Try.ntmps34
  go_wp2
  go_ret
  exact ⟨rfl, Hb.out _⟩

/-- After k rounds: the first k parts. -/
def KP (w wr : World) (ps : List Value) (k : Nat) (v : Value) : Prop := wr.ownsRow w.heap.size 43 1 v k (ps.take k) ∧ Below w.heap.size w wr

set_option maxHeartbeats 3200000 in
theorem kids_map (b n : Nat) (vK : List (List Int)) (ps : List Value) (w : World) (hm : w.ownsMap Try.prog 9 tokR b 64 (mapD vK ps n)) (ha : ∀ i, i < n → stepB vK i = true) (hps : ∀ i, i < n → ∃ t x, ps.getD i .nilIface = .iface t x) (hn : n ≤ 40) :
    Calls Try.prog 34 #[.iface 75 (.agg #[.map (some b)])] w fun e w' => ∃ v, e = .returned v ∧ w'.ownsRow w.heap.size 43 1 v n ((List.range n).map fun i => ps.getD i .nilIface) ∧ Below w.heap.size w w' := by
  have h1 := list_mapPart (.agg #[.map (some b)]) w
  have h2 := map_mapPart (.agg #[.map (some b)]) w
  have HF : Hid (∀ o : Obj, Calls Try.prog 42 #[.agg #[.map (some b)]] (w.alloc o) fun e w' => ∃ u, e = .returned u ∧ FRow w' u vK ps n ∧ Below w.heap.size w w') := by
    intro o
    have b0 : Below w.heap.size w (w.alloc o) := (Below.refl _ _).alloc (Nat.le_refl _) o
    refine (fields_any b n vK ps (w.alloc o) (hm.kept (below_grows b0 none) (by simp)) ha hps hn).mono ?_
    rintro e w' ⟨u, rfl, hF, hb⟩
    exact ⟨u, rfl, hF, Below.on b0 hb⟩
  obtain ⟨i0, hi, hz0, hz1, hz2⟩ := info_parts info_part
  have HPs := hide' hps
  clear hm ha hps
  go_enter Try.func34, Try.ntmps34
  go_wp2_with fail
  refine (HF.out _).mono ?_
  rintro e w1 ⟨u, rfl, hF, hb1⟩
  obtain ⟨fa, fc, rfl, hfc, hfm, hcell⟩ := hF
  have HC := hide' hcell
  have Hb1 := hide' hb1
  unfold maxLen at hfm
  clear hcell HF
  go_wp2
  go_loopw [3, 20] (fun v i wr => ∃ k : Nat, k ≤ n ∧ i = .int .i64 k ∧ wr.ownsRow w1.heap.size 43 1 v k ((List.range k).map fun i => ps.getD i .nilIface) ∧ Below w1.heap.size w1 wr) (fun _ i _ => n - (intOf i).toNat)
  case atStart => exact ⟨0, Nat.zero_le _, rfl, ⟨by simp, .inl ⟨rfl, rfl⟩⟩, Below.refl _ _⟩
  case round =>
    obtain ⟨k, hk, rfl, hown, hbel⟩ := hrel
    have hsz := hbel.size
    by_cases hlt : k < n
    · have hlt' : (k : Int) < (n : Int) := by omega
      have hat : ∃ g, fa = some ⟨g, 0, none⟩ ∧ g < w1.heap.size ∧ wr.cell? ⟨g, k * 2, none⟩ = some (.string (strOf (vK.getD k []))) ∧ wr.cell? ⟨g, k * 2 + 1, none⟩ = some (ps.getD k .nilIface) := by
        rcases HC.out with h0 | ⟨g, rfl, hg, hc⟩
        · omega
        · obtain ⟨c0, c1⟩ := hc k hlt
          exact ⟨g, rfl, hg, (World.cell?_of_block (hbel.block g hg)).trans c0, (World.cell?_of_block (hbel.block g hg)).trans c1⟩
      obtain ⟨g, rfl, hg, c0, c1⟩ := hat
      obtain ⟨pt, px, hp⟩ := HPs.out k hlt
      rw [hp] at c1
      have hvs : ∃ p c, u3 = .slice p k c := by
        rcases hown.2 with ⟨rfl, h0⟩ | ⟨g, cap, cur, rfl, _⟩
        · exact ⟨none, 0, by rw [h0]⟩
        · exact ⟨_, _, rfl⟩
      obtain ⟨vp, vc, rfl⟩ := hvs
      have hz2' : wr.heap.size + 1 ≤ ((wr.alloc (.cells #[.string (strOf (vK.getD k [])), .iface pt px] 79)).alloc (.cells #[.iface pt px] 43)).heap.size := by simp
      have hrw := (hown.alloc (.cells #[.string (strOf (vK.getD k [])), .iface pt px] 79)).alloc (.cells #[.iface pt px] 43)
      have hcn : ∀ j u, [Value.iface pt px][j]? = some u → ((wr.alloc (.cells #[.string (strOf (vK.getD k [])), .iface pt px] 79)).alloc (.cells #[.iface pt px] 43)).cell? ((⟨wr.heap.size + 1, 0, none⟩ : Addr).add j) = some u := by
        have := cell_one_new (wr.alloc (.cells #[.string (strOf (vK.getD k [])), .iface pt px] 79)) (.iface pt px) 43
        simpa using this
      have HX : Hid (∀ w3, ((wr.alloc (.cells #[.string (strOf (vK.getD k [])), .iface pt px] 79)).alloc (.cells #[.iface pt px] 43)).grownBy w3 (Value.slice vp k vc).ownBlock → Below w1.heap.size w1 w3) := by
        intro w3 hg3
        refine ((hbel.alloc hbel.size _).alloc (by simp; omega) _).grown hg3 (by omega) fun j hj => (hown.lt j hj).1
      have HL : Hid (((List.range (k + 1)).map fun i => ps.getD i .nilIface) = ((List.range k).map fun i => ps.getD i .nilIface) ++ [.iface pt px]) := by
        show ((List.range (k + 1)).map fun i => ps.getD i .nilIface) = _
        rw [List.range_succ, List.map_append, List.map_singleton, hp]
      generalize strOf (vK.getD k []) = key at *
      clear hb1 HC hbel hown h1 h2 hp
      go_wp2_with (at_builtin; refine wpList_append_own_at _ rfl _ _ 56 rfl w1.heap.size 43 i0 .nilIface 1 16 Try.underlying56 hi hz0 hz1 hz2 rfl (by decide) _ k _ rfl hrw ⟨wr.heap.size + 1, 0, none⟩ 1 1 [.iface pt px] rfl rfl hcn (by intro u hu; simp at hu; rw [hu]; rfl) (by unfold maxLen; omega) (by omega) (by omega) ?_; intro y' w3 hown' hg3 hnil hloc)
      have hB3 := HX.out w3 hg3
      rw [← HL.out] at hown'
      clear hg3 hnil hloc hrw hcn
      go_wp2
      go_roundw
      case rel => exact ⟨k + 1, by omega, by go_num, hown', hB3⟩
      case measure => simp [intOf]; omega
    · have hkn : k = n := by omega
      subst hkn
      have hkn' : ¬ (k : Int) < (k : Int) := by omega
      have hown' : Hid (wr.ownsRow w.heap.size 43 1 u3 k ((List.range k).map fun i => ps.getD i .nilIface)) := by
        refine ⟨hown.1, ?_⟩
        rcases hown.2 with h0 | ⟨g, cap, cur, rfl, hg, r⟩
        · exact .inl h0
        · exact .inr ⟨g, cap, cur, rfl, by have := Hb1.out.size; omega, r⟩
      have hB := Below.on Hb1.out hbel
      clear hown hbel
      go_wp2
      go_ret
      exact ⟨_, rfl, hown'.out, hB⟩
end Go.Proofs.Ytlhcfipfkodlfaa
/-
  A slice of parts, read place by place; no statement is proved here.
-/
namespace Go.Proofs.Ytlhcfipfkodlfaa
open Go.RowKit
set_option linter.unusedVariables false

theorem PLSeg.at {R : Nat → Prop} {w : World} {d : Nat} {a : Option Addr} {n cap : Nat} {l : List (Vl d)} (h : PLSeg R w d (.slice a n cap) l) {k : Nat} (hk : k < l.length) : ∃ b off t x, a = some ⟨b, off, none⟩ ∧ R b ∧ w.cell? ⟨b, off + k, none⟩ = some (.iface t x) ∧ PSeg R w d (.iface t x) (l[k]) := by
  obtain ⟨a', cap', e, hc⟩ := h
  simp only [Value.slice.injEq] at e
  obtain ⟨rfl, _, _⟩ := e
  rcases hc with h0 | ⟨b, off, rfl, hR, hc⟩
  · rw [h0] at hk; simp at hk
  · obtain ⟨u, hu, hv⟩ := hc k hk
    obtain ⟨t, x, rfl⟩ := hv.shape
    exact ⟨b, off, t, x, rfl, hR, hu, hv⟩

theorem PLSeg.grow {w w' : World} {d : Nat} {x : Value} {l : List (Vl d)} (h : PLSeg (fun b => b < w.heap.size) w d x l) (hb : Below w.heap.size w w') : PLSeg (fun b => b < w.heap.size) w' d x l := by
  obtain ⟨a, cap, e, hc⟩ := h
  refine ⟨a, cap, e, ?_⟩
  rcases hc with h0 | ⟨b, off, e1, hR, hc⟩
  · exact .inl h0
  · refine .inr ⟨b, off, e1, hR, fun i hi => ?_⟩
    obtain ⟨u, hu, hv⟩ := hc i hi
    exact ⟨u, (cell_agree (agree_below hb) hR).trans hu, PSeg.carry (fun b hb => hb) (agree_below hb) d hv⟩
end Go.Proofs.Ytlhcfipfkodlfaa
/-
  l2parts, l2deep, l2known of the specification, and ValParts, ValDeep, ValKnown of it, at every value.
-/
namespace Go.Proofs.Ytlhcfipfkodlfaa
open Go.RowKit
set_option linter.unusedVariables false
set_option linter.unusedSimpArgs false

/-- How deep the deepest part is. -/
def deepV : (d : Nat) → Vl d → Nat
  | 0, _ => 0
  | d + 1, v => (v.2.2.2.2.map (deepV d)).foldr max 0 + 1
/-- No part is unknown. -/
def knownV : (d : Nat) → Vl d → Bool
  | 0, _ => false
  | d + 1, v => decide (v.1 ≠ 6) && v.2.2.2.2.all (knownV d)

/-- The greatest of the first k. -/
def mx {α : Type} (f : α → Nat) (l : List α) (k : Nat) : Nat := ((l.take k).map f).foldl max 0
theorem mx_zero {α : Type} (f : α → Nat) (l : List α) : mx f l 0 = 0 := by simp [mx]
theorem mx_succ {α : Type} (f : α → Nat) (l : List α) (k : Nat) (h : k < l.length) : mx f l (k + 1) = max (mx f l k) (f l[k]) := by
  unfold mx
  rw [List.take_succ_eq_append_getElem h, List.map_append, List.foldl_append]
  simp only [List.map_cons, List.map_nil, List.foldl_cons, List.foldl_nil]
theorem foldl_max (l : List Nat) : ∀ a, l.foldl max a = max a (l.foldr max 0) := by
  induction l with
  | nil => intro a; simp
  | cons x l ih => intro a; simp only [List.foldl_cons, List.foldr_cons]; rw [ih]; omega
theorem mx_all {α : Type} (f : α → Nat) (l : List α) : mx f l l.length = (l.map f).foldr max 0 := by
  unfold mx
  rw [List.take_length, foldl_max]
  omega
theorem deep_succ (d : Nat) (vk vn : Int) (vs : List Int) (vK : List (List Int)) (vL : List (Vl d)) : deepV (d + 1) (vk, vn, vs, vK, vL) = mx (deepV d) vL vL.length + 1 := by
  rw [mx_all]; rfl
theorem mx_le_pre {α : Type} (f g : α → Nat) (l : List α) (h : ∀ x, f x ≤ g x) : ∀ k, k ≤ l.length → mx f l k ≤ pre g l k
  | 0, _ => by simp [mx_zero]
  | k + 1, hk => by
    have := mx_le_pre f g l h k (by omega)
    have h1 := mx_succ f l k (by omega)
    have h2 := pre_succ g l k (by omega)
    have := h l[k]
    omega
theorem deep_le (d : Nat) : ∀ v : Vl d, deepV d v ≤ partsV d v := by
  induction d with
  | zero => intro v; exact v.elim
  | succ d ih =>
    intro v
    obtain ⟨vk, vn, vs, vK, vL⟩ := v
    rw [deep_succ, parts_succ]
    have := mx_le_pre (deepV d) (partsV d) vL ih vL.length (Nat.le_refl _)
    omega
theorem known_no {d : Nat} {vk vn : Int} {vs : List Int} {vK : List (List Int)} {vL : List (Vl d)} {k : Nat} (hk : k < vL.length) (h : knownV d vL[k] = false) : knownV (d + 1) (vk, vn, vs, vK, vL) = false := by
  show (decide (vk ≠ 6) && vL.all (knownV d)) = false
  rw [Bool.and_eq_false_iff]
  refine .inr ?_
  rw [List.all_eq_false]
  exact ⟨vL[k], List.getElem_mem hk, by simp [h]⟩
theorem known_yes {d : Nat} {vk vn : Int} {vs : List Int} {vK : List (List Int)} {vL : List (Vl d)} (hk : vk ≠ 6) (h : ∀ k (hk : k < vL.length), knownV d vL[k] = true) : knownV (d + 1) (vk, vn, vs, vK, vL) = true := by
  show (decide (vk ≠ 6) && vL.all (knownV d)) = true
  simp only [Bool.and_eq_true, decide_eq_true_eq, List.all_eq_true]
  refine ⟨hk, fun x hx => ?_⟩
  obtain ⟨i, hi, rfl⟩ := List.getElem_of_mem hx
  exact h i hi
theorem kid_parts {d : Nat} {vk vn : Int} {vs : List Int} {vK : List (List Int)} {vL : List (Vl d)} {k : Nat} (hk : k < vL.length) (h : partsV (d + 1) (vk, vn, vs, vK, vL) ≤ 40) : partsV d vL[k] ≤ 40 ∧ 1 + pre (partsV d) vL (k + 1) ≤ 40 := by
  rw [parts_succ] at h
  have h1 := pre_succ (partsV d) vL k hk
  have h2 := pre_le (partsV d) vL (k + 1)
  have h3 := pre_all (partsV d) vL
  omega
theorem pre_le_len {α : Type} (f : α → Nat) (l : List α) (k : Nat) : pre f l k ≤ pre f l l.length := by
  have := pre_le f l k
  have := pre_all f l
  omega

/-- A function of a value that only reads it: what it answers at depth d. -/
def FnAt (F : Nat) (ans : (d : Nat) → Vl d → Value) (d : Nat) : Prop := ∀ (N : Nat) (c : Value × Value × Value × Value × Value) (v : Vl d) (w : World), VSeg (fun b => b < N) w d c v → N ≤ w.heap.size → partsV d v ≤ 40 →
  Calls Try.prog F #[.agg #[c.1, c.2.1, c.2.2.1, c.2.2.2.1, c.2.2.2.2]] w fun e w' => e = .returned (ans d v) ∧ Below w.heap.size w w'

set_option maxHeartbeats 4000000 in
theorem l2parts_succ (d : Nat) (ih : FnAt 19 (fun d v => .int .i64 (partsV d v)) d) : FnAt 19 (fun d v => .int .i64 (partsV d v)) (d + 1) := by
  intro N c v w hv hN hp
  obtain ⟨c0, c1, c2, c3, c4⟩ := c
  obtain ⟨vk, vn, vs, vK, vL⟩ := v
  obtain ⟨e0, e1, ht, hk, hl⟩ := (VSeg_succ _ _ _ _ _).1 hv
  simp only at e0 e1 ht hk hl
  subst e0
  subst e1
  clear hv
  simp only
  have HX := hide' hl
  obtain ⟨a2, p2, rfl, s2, l2, m2, _, _⟩ := ht
  obtain ⟨a3, p3, rfl, _, _, _, _⟩ := hk
  obtain ⟨a4, p4, rfl, hlc, hcm, ka, _⟩ := hl
  unfold maxLen at hcm
  have b0 : ∀ o : Obj, Below w.heap.size w (w.alloc o) := fun o => (Below.refl _ _).alloc (Nat.le_refl _) o
  have Hb := hide' b0
  have HI := hide' ih
  have HP := hide' hp
  generalize hO : Obj.cells #[.int .i64 vk, .int .i64 vn, .slice a2 vs.length p2, .slice a3 vK.length p3, .slice a4 vL.length p4] 31 = ob
  have HOb := hide' hO
  clear ih b0 hO hp s2
  go_enter Try.func19, Try.ntmps19
  go_wp2
  go_loopw [3, 4] (fun n i wr => ∃ k : Nat, k ≤ vL.length ∧ n = .int .i64 ((1 + pre (partsV d) vL k : Nat) : Int) ∧ i = .int .i64 k ∧ Hid (Below (w.alloc ob).heap.size (w.alloc ob) wr)) (fun _ i _ => vL.length - (intOf i).toNat)
  case atStart => exact ⟨0, Nat.zero_le _, by rw [pre_zero]; rfl, rfl, by rw [← HOb.out]; exact Below.refl _ _⟩
  case round =>
    obtain ⟨k, hk, rfl, rfl, hbel⟩ := hrel
    have hrow := box_row hbel.out
    rw [← HOb.out] at hrow
    obtain ⟨y0, y1, y2, y3, y4, _⟩ := row5 hrow
    have B := Below.on (Hb.out ob) hbel.out
    clear hrow
    by_cases hlt : k < vL.length
    · have hlt' : (k : Int) < (vL.length : Int) := by omega
      obtain ⟨b, off, c, rfl, h5', hv⟩ := HX.out.at B hN hlt
      obtain ⟨c0, c1, c2, c3, c4⟩ := c
      obtain ⟨q0, q1, q2, q3, q4⟩ := h5'
      simp only at q0 q1 q2 q3 q4
      have hz := B.size
      obtain ⟨hp1, hp2⟩ := kid_parts hlt HP.out
      have HC0 := HI.out N (c0, c1, c2, c3, c4) vL[k] wr (hv wr B) (by omega) hp1
      dsimp only at HC0
      have HC := hide' HC0
      clear HC0
      have hps := pre_succ (partsV d) vL k hlt
      have HF : Hid ((1 + pre (partsV d) vL k : Nat) + partsV d vL[k] = 1 + pre (partsV d) vL (k + 1)) := by show _ + _ = _; omega
      have hb1 : ((1 + pre (partsV d) vL k : Nat) : Int) + (partsV d vL[k] : Nat) ≤ 40 := by omega
      generalize partsV d vL[k] = pk at *
      generalize 1 + pre (partsV d) vL k = pp at *
      clear hv hps hp2
      go_wp2_with fail
      refine HC.out.mono ?_
      rintro e w1 ⟨rfl, b1⟩
      have B1 : Hid (Below (w.alloc ob).heap.size (w.alloc ob) w1) := Below.on hbel.out b1
      clear q0 q1 q2 q3 q4 b1
      go_wp2
      go_roundw
      case rel => exact ⟨k + 1, by omega, by rw [← HF.out]; go_num, by go_num, B1⟩
      case measure => simp [intOf]; omega
    · have hkn : k = vL.length := by omega
      have hlt' : ¬ (k : Int) < (vL.length : Int) := by omega
      have HF : Hid (partsV (d + 1) (vk, vn, vs, vK, vL) = 1 + pre (partsV d) vL k) := by show partsV (d + 1) (vk, vn, vs, vK, vL) = _; rw [parts_succ, hkn]
      clear hkn
      go_wp2
      go_ret
      exact ⟨ret_i64 (by rw [HF.out]; omega), B⟩

set_option maxHeartbeats 4000000 in
theorem l2deep_succ (d : Nat) (ih : FnAt 28 (fun d v => .int .i64 (deepV d v)) d) : FnAt 28 (fun d v => .int .i64 (deepV d v)) (d + 1) := by
  intro N c v w hv hN hp
  obtain ⟨c0, c1, c2, c3, c4⟩ := c
  obtain ⟨vk, vn, vs, vK, vL⟩ := v
  obtain ⟨e0, e1, ht, hk, hl⟩ := (VSeg_succ _ _ _ _ _).1 hv
  simp only at e0 e1 ht hk hl
  subst e0
  subst e1
  clear hv
  simp only
  have HX := hide' hl
  obtain ⟨a2, p2, rfl, s2, l2, m2, _, _⟩ := ht
  obtain ⟨a3, p3, rfl, _, _, _, _⟩ := hk
  obtain ⟨a4, p4, rfl, hlc, hcm, ka, _⟩ := hl
  unfold maxLen at hcm
  have b0 : ∀ o : Obj, Below w.heap.size w (w.alloc o) := fun o => (Below.refl _ _).alloc (Nat.le_refl _) o
  have Hb := hide' b0
  have HI := hide' ih
  have HP := hide' hp
  generalize hO : Obj.cells #[.int .i64 vk, .int .i64 vn, .slice a2 vs.length p2, .slice a3 vK.length p3, .slice a4 vL.length p4] 31 = ob
  have HOb := hide' hO
  clear ih b0 hO hp s2
  go_enter Try.func28, Try.ntmps28
  go_wp2
  go_loopw [3, 4] (fun n i wr => ∃ k : Nat, k ≤ vL.length ∧ n = .int .i64 ((mx (deepV d) vL k : Nat) : Int) ∧ i = .int .i64 k ∧ Hid (Below (w.alloc ob).heap.size (w.alloc ob) wr)) (fun _ i _ => vL.length - (intOf i).toNat)
  case atStart => exact ⟨0, Nat.zero_le _, by rw [mx_zero]; rfl, rfl, by rw [← HOb.out]; exact Below.refl _ _⟩
  case round =>
    obtain ⟨k, hk, rfl, rfl, hbel⟩ := hrel
    have hrow := box_row hbel.out
    rw [← HOb.out] at hrow
    obtain ⟨y0, y1, y2, y3, y4, _⟩ := row5 hrow
    have B := Below.on (Hb.out ob) hbel.out
    clear hrow
    by_cases hlt : k < vL.length
    · have hlt' : (k : Int) < (vL.length : Int) := by omega
      obtain ⟨b, off, c, rfl, h5', hv⟩ := HX.out.at B hN hlt
      obtain ⟨c0, c1, c2, c3, c4⟩ := c
      obtain ⟨q0, q1, q2, q3, q4⟩ := h5'
      simp only at q0 q1 q2 q3 q4
      have hz := B.size
      obtain ⟨hp1, hp2⟩ := kid_parts hlt HP.out
      have HC0 := HI.out N (c0, c1, c2, c3, c4) vL[k] wr (hv wr B) (by omega) hp1
      dsimp only at HC0
      have HC := hide' HC0
      clear HC0
      have hms := mx_succ (deepV d) vL k hlt
      have hd1 := deep_le d vL[k]
      have hd2 := mx_le_pre (deepV d) (partsV d) vL (deep_le d) k (by omega)
      have hd3 := pre_succ (partsV d) vL k hlt
      have hb1 : mx (deepV d) vL k ≤ 40 := by omega
      have hb2 : deepV d vL[k] ≤ 40 := by omega
      have HF : Hid (mx (deepV d) vL (k + 1) = max (mx (deepV d) vL k) (deepV d vL[k])) := hms
      generalize deepV d vL[k] = pk at *
      generalize mx (deepV d) vL k = pp at *
      clear hv hms hd1 hd2 hd3 hp2 hp1
      by_cases hgt : pp < pk
      · have hgt' : (pp : Int) < (pk : Int) := by omega
        go_wp2_with fail
        refine HC.out.mono ?_
        rintro e w1 ⟨rfl, b1⟩
        have B1 : Hid (Below (w.alloc ob).heap.size (w.alloc ob) w1) := Below.on hbel.out b1
        clear q0 q1 q2 q3 q4 b1
        go_wp2
        go_roundw
        case rel => exact ⟨k + 1, by omega, by rw [HF.out, Nat.max_eq_right (by omega)], by go_num, B1⟩
        case measure => simp [intOf]; omega
      · have hgt' : ¬ (pp : Int) < (pk : Int) := by omega
        go_wp2_with fail
        refine HC.out.mono ?_
        rintro e w1 ⟨rfl, b1⟩
        have B1 : Hid (Below (w.alloc ob).heap.size (w.alloc ob) w1) := Below.on hbel.out b1
        clear q0 q1 q2 q3 q4 b1
        go_wp2
        go_roundw
        case rel => exact ⟨k + 1, by omega, by rw [HF.out, Nat.max_eq_left (by omega)], by go_num, B1⟩
        case measure => simp [intOf]; omega
    · have hkn : k = vL.length := by omega
      have hlt' : ¬ (k : Int) < (vL.length : Int) := by omega
      have hd2 := mx_le_pre (deepV d) (partsV d) vL (deep_le d) k (by omega)
      have hp3 := HP.out
      rw [parts_succ] at hp3
      have hp4 := pre_le_len (partsV d) vL k
      have hb1 : mx (deepV d) vL k ≤ 40 := by omega
      have HF : Hid (deepV (d + 1) (vk, vn, vs, vK, vL) = mx (deepV d) vL k + 1) := by show deepV (d + 1) (vk, vn, vs, vK, vL) = _; rw [deep_succ, hkn]
      generalize mx (deepV d) vL k = pp at *
      clear hkn hd2 hp3 hp4
      go_wp2
      go_ret
      exact ⟨ret_i64 (by rw [HF.out]; go_num), B⟩

set_option maxHeartbeats 4000000 in
theorem l2known_succ (d : Nat) (ih : FnAt 30 (fun d v => .bool (knownV d v)) d) : FnAt 30 (fun d v => .bool (knownV d v)) (d + 1) := by
  intro N c v w hv hN hp
  obtain ⟨c0, c1, c2, c3, c4⟩ := c
  obtain ⟨vk, vn, vs, vK, vL⟩ := v
  obtain ⟨e0, e1, ht, hk, hl⟩ := (VSeg_succ _ _ _ _ _).1 hv
  simp only at e0 e1 ht hk hl
  subst e0
  subst e1
  clear hv
  simp only
  have HX := hide' hl
  obtain ⟨a2, p2, rfl, s2, l2, m2, _, _⟩ := ht
  obtain ⟨a3, p3, rfl, _, _, _, _⟩ := hk
  obtain ⟨a4, p4, rfl, hlc, hcm, ka, _⟩ := hl
  unfold maxLen at hcm
  have b0 : ∀ o : Obj, Below w.heap.size w (w.alloc o) := fun o => (Below.refl _ _).alloc (Nat.le_refl _) o
  have Hb := hide' b0
  have HI := hide' ih
  have HP := hide' hp
  generalize hO : Obj.cells #[.int .i64 vk, .int .i64 vn, .slice a2 vs.length p2, .slice a3 vK.length p3, .slice a4 vL.length p4] 31 = ob
  have HOb := hide' hO
  clear ih b0 hp s2
  by_cases hk6 : vk = 6
  · subst hk6
    subst hO
    have HF : Hid (knownV (d + 1) (6, vn, vs, vK, vL) = false) := rfl
    go_enter Try.func30, Try.ntmps30
    go_wp2
    go_ret
    exact ⟨ret_bool HF.out.symm, Hb.out _⟩
  have HK6 : Hid (vk ≠ 6) := hk6
  clear hO
  go_enter Try.func30, Try.ntmps30
  go_wp2
  go_loopw [3] (fun i wr => ∃ k : Nat, k ≤ vL.length ∧ i = .int .i64 k ∧ (∀ j (h : j < vL.length), j < k → knownV d vL[j] = true) ∧ Hid (Below (w.alloc ob).heap.size (w.alloc ob) wr)) (fun i _ => vL.length - (intOf i).toNat)
  case atStart => exact ⟨0, Nat.zero_le _, rfl, fun j _ h => by omega, by rw [← HOb.out]; exact Below.refl _ _⟩
  case round =>
    obtain ⟨k, hk, rfl, hall, hbel⟩ := hrel
    have hrow := box_row hbel.out
    rw [← HOb.out] at hrow
    obtain ⟨y0, y1, y2, y3, y4, _⟩ := row5 hrow
    have B := Below.on (Hb.out ob) hbel.out
    clear hrow
    by_cases hlt : k < vL.length
    · have hlt' : (k : Int) < (vL.length : Int) := by omega
      obtain ⟨b, off, c, rfl, h5', hv⟩ := HX.out.at B hN hlt
      obtain ⟨c0, c1, c2, c3, c4⟩ := c
      obtain ⟨q0, q1, q2, q3, q4⟩ := h5'
      simp only at q0 q1 q2 q3 q4
      have hz := B.size
      obtain ⟨hp1, hp2⟩ := kid_parts hlt HP.out
      have HC0 := HI.out N (c0, c1, c2, c3, c4) vL[k] wr (hv wr B) (by omega) hp1
      dsimp only at HC0
      have HC := hide' HC0
      clear HC0
      cases hkb : knownV d vL[k] with
      | true =>
        have HF : Hid (∀ j (h : j < vL.length), j < k + 1 → knownV d vL[j] = true) := fun j h hj => by
          by_cases e : j = k
          · subst e; exact hkb
          · exact hall j h (by omega)
        rw [hkb] at HC
        clear hv hkb hall hp1 hp2
        go_wp2_with fail
        refine HC.out.mono ?_
        rintro e w1 ⟨rfl, b1⟩
        have B1 : Hid (Below (w.alloc ob).heap.size (w.alloc ob) w1) := Below.on hbel.out b1
        clear q0 q1 q2 q3 q4 b1
        go_wp2
        go_roundw
        case rel => exact ⟨k + 1, by omega, by go_num, HF.out, B1⟩
        case measure => simp [intOf]; omega
      | false =>
        have HF := hide' (known_no (vk := vk) (vn := vn) (vs := vs) (vK := vK) hlt hkb)
        rw [hkb] at HC
        clear hv hkb hall hp1 hp2
        go_wp2_with fail
        refine HC.out.mono ?_
        rintro e w1 ⟨rfl, b1⟩
        have B1 : Below w.heap.size w w1 := Below.on B b1
        clear q0 q1 q2 q3 q4 b1
        go_wp2
        go_ret
        exact ⟨ret_bool HF.out.symm, B1⟩
    · have hlt' : ¬ (k : Int) < (vL.length : Int) := by omega
      have HF := hide' (known_yes (vn := vn) (vs := vs) (vK := vK) HK6.out fun j h => hall j h (by omega))
      clear hall
      go_wp2
      go_ret
      exact ⟨ret_bool HF.out.symm, B⟩

theorem l2parts_any (d : Nat) : FnAt 19 (fun d v => .int .i64 (partsV d v)) d := by
  induction d with
  | zero => intro N c v w hv; exact hv.elim
  | succ d ih => exact l2parts_succ d ih

theorem l2deep_any (d : Nat) : FnAt 28 (fun d v => .int .i64 (deepV d v)) d := by
  induction d with
  | zero => intro N c v w hv; exact hv.elim
  | succ d ih => exact l2deep_succ d ih

theorem l2known_any (d : Nat) : FnAt 30 (fun d v => .bool (knownV d v)) d := by
  induction d with
  | zero => intro N c v w hv; exact hv.elim
  | succ d ih => exact l2known_succ d ih

/-- What ValParts answers. -/
def ansValParts (d : Nat) (v : Vl d) : Nat := cond (okB d v) (partsV d v) 0

set_option maxHeartbeats 1600000 in
theorem spec_ValParts_any (d N : Nat) (c0 c1 c2 c3 c4 : Value) (v : Vl d) (w : World) (hv : VSeg (fun b => b < N) w d (c0, c1, c2, c3, c4) v) (hN : N ≤ w.heap.size) :
    Calls Try.prog 7 #[.agg #[c0, c1, c2, c3, c4]] w fun e w' => e = .returned (.int .i64 (ansValParts d v)) ∧ Below w.heap.size w w' := by
  have b0 : ∀ o : Obj, Below w.heap.size w (w.alloc o) := fun o => (Below.refl _ _).alloc (Nat.le_refl _) o
  have HV : Hid (∀ wx, Below w.heap.size w wx → VSeg (fun b => b < N) wx d (c0, c1, c2, c3, c4) v) := fun wx hb => VSeg.agree (agree_below (hb.mono hN)) d hv
  have HC : Hid (∀ o : Obj, Calls Try.prog 18 #[.agg #[c0, c1, c2, c3, c4]] (w.alloc o) fun e w' => e = .returned (.bool (okB d v)) ∧ Below (w.alloc o).heap.size (w.alloc o) w') := fun o =>
    spec_ValOk_any d N c0 c1 c2 c3 c4 v (w.alloc o) (HV.out _ (b0 o)) (by have := (b0 o).size; omega)
  have Hb := hide' b0
  obtain ⟨ck, cn, a2, l2, p2, a3, l3, p3, a4, l4, p4, rfl, rfl, rfl, rfl, rfl⟩ := VSeg.form d hv
  clear b0 hv
  cases hb : okB d v with
  | true =>
    have hpar : partsV d v ≤ 40 := by simp [okB] at hb; exact hb.2
    have HA : Hid (ansValParts d v = partsV d v) := by simp [Hid, ansValParts, hb]
    rw [hb] at HC
    clear hb
    go_enter Try.func7, Try.ntmps7
    go_wp2_with fail
    refine (HC.out _).mono ?_
    rintro e w1 ⟨rfl, b1⟩
    have B1 := Below.on (Hb.out _) b1
    obtain ⟨y0, y1, y2, y3, y4, _⟩ := row5 (box_row b1)
    have hz := B1.size
    have HF := hide' (l2parts_any d N (_, _, _, _, _) v w1 (HV.out _ B1) (by omega) hpar)
    clear b1 HC HV
    go_wp2_with fail
    refine HF.out.mono ?_
    rintro e w2 ⟨rfl, b2⟩
    have B2 := Below.on B1 b2
    go_wp2
    go_ret
    exact ⟨ret_i64 (by rw [HA.out]), B2⟩
  | false =>
    have HA : Hid (ansValParts d v = 0) := by simp [Hid, ansValParts, hb]
    rw [hb] at HC
    clear hb
    go_enter Try.func7, Try.ntmps7
    go_wp2_with fail
    refine (HC.out _).mono ?_
    rintro e w1 ⟨rfl, b1⟩
    have B1 := Below.on (Hb.out _) b1
    go_wp2
    go_ret
    exact ⟨ret_i64 (by rw [HA.out]; rfl), B1⟩

/-- What ValDeep answers. -/
def ansValDeep (d : Nat) (v : Vl d) : Nat := cond (okB d v) (deepV d v) 0

set_option maxHeartbeats 1600000 in
theorem spec_ValDeep_any (d N : Nat) (c0 c1 c2 c3 c4 : Value) (v : Vl d) (w : World) (hv : VSeg (fun b => b < N) w d (c0, c1, c2, c3, c4) v) (hN : N ≤ w.heap.size) :
    Calls Try.prog 11 #[.agg #[c0, c1, c2, c3, c4]] w fun e w' => e = .returned (.int .i64 (ansValDeep d v)) ∧ Below w.heap.size w w' := by
  have b0 : ∀ o : Obj, Below w.heap.size w (w.alloc o) := fun o => (Below.refl _ _).alloc (Nat.le_refl _) o
  have HV : Hid (∀ wx, Below w.heap.size w wx → VSeg (fun b => b < N) wx d (c0, c1, c2, c3, c4) v) := fun wx hb => VSeg.agree (agree_below (hb.mono hN)) d hv
  have HC : Hid (∀ o : Obj, Calls Try.prog 18 #[.agg #[c0, c1, c2, c3, c4]] (w.alloc o) fun e w' => e = .returned (.bool (okB d v)) ∧ Below (w.alloc o).heap.size (w.alloc o) w') := fun o =>
    spec_ValOk_any d N c0 c1 c2 c3 c4 v (w.alloc o) (HV.out _ (b0 o)) (by have := (b0 o).size; omega)
  have Hb := hide' b0
  obtain ⟨ck, cn, a2, l2, p2, a3, l3, p3, a4, l4, p4, rfl, rfl, rfl, rfl, rfl⟩ := VSeg.form d hv
  clear b0 hv
  cases hb : okB d v with
  | true =>
    have hpar : partsV d v ≤ 40 := by simp [okB] at hb; exact hb.2
    have HA : Hid (ansValDeep d v = deepV d v) := by simp [Hid, ansValDeep, hb]
    rw [hb] at HC
    clear hb
    go_enter Try.func11, Try.ntmps11
    go_wp2_with fail
    refine (HC.out _).mono ?_
    rintro e w1 ⟨rfl, b1⟩
    have B1 := Below.on (Hb.out _) b1
    obtain ⟨y0, y1, y2, y3, y4, _⟩ := row5 (box_row b1)
    have hz := B1.size
    have HF := hide' (l2deep_any d N (_, _, _, _, _) v w1 (HV.out _ B1) (by omega) hpar)
    clear b1 HC HV
    go_wp2_with fail
    refine HF.out.mono ?_
    rintro e w2 ⟨rfl, b2⟩
    have B2 := Below.on B1 b2
    go_wp2
    go_ret
    exact ⟨ret_i64 (by rw [HA.out]), B2⟩
  | false =>
    have HA : Hid (ansValDeep d v = 0) := by simp [Hid, ansValDeep, hb]
    rw [hb] at HC
    clear hb
    go_enter Try.func11, Try.ntmps11
    go_wp2_with fail
    refine (HC.out _).mono ?_
    rintro e w1 ⟨rfl, b1⟩
    have B1 := Below.on (Hb.out _) b1
    go_wp2
    go_ret
    exact ⟨ret_i64 (by rw [HA.out]; rfl), B1⟩

/-- What ValKnown answers. -/
def ansValKnown (d : Nat) (v : Vl d) : Bool := okB d v && knownV d v

set_option maxHeartbeats 1600000 in
theorem spec_ValKnown_any (d N : Nat) (c0 c1 c2 c3 c4 : Value) (v : Vl d) (w : World) (hv : VSeg (fun b => b < N) w d (c0, c1, c2, c3, c4) v) (hN : N ≤ w.heap.size) :
    Calls Try.prog 13 #[.agg #[c0, c1, c2, c3, c4]] w fun e w' => e = .returned (.bool (ansValKnown d v)) ∧ Below w.heap.size w w' := by
  have b0 : ∀ o : Obj, Below w.heap.size w (w.alloc o) := fun o => (Below.refl _ _).alloc (Nat.le_refl _) o
  have HV : Hid (∀ wx, Below w.heap.size w wx → VSeg (fun b => b < N) wx d (c0, c1, c2, c3, c4) v) := fun wx hb => VSeg.agree (agree_below (hb.mono hN)) d hv
  have HC : Hid (∀ o : Obj, Calls Try.prog 18 #[.agg #[c0, c1, c2, c3, c4]] (w.alloc o) fun e w' => e = .returned (.bool (okB d v)) ∧ Below (w.alloc o).heap.size (w.alloc o) w') := fun o =>
    spec_ValOk_any d N c0 c1 c2 c3 c4 v (w.alloc o) (HV.out _ (b0 o)) (by have := (b0 o).size; omega)
  have Hb := hide' b0
  obtain ⟨ck, cn, a2, l2, p2, a3, l3, p3, a4, l4, p4, rfl, rfl, rfl, rfl, rfl⟩ := VSeg.form d hv
  clear b0 hv
  cases hb : okB d v with
  | true =>
    have hpar : partsV d v ≤ 40 := by simp [okB] at hb; exact hb.2
    have HA : Hid (ansValKnown d v = knownV d v) := by simp [Hid, ansValKnown, hb]
    rw [hb] at HC
    clear hb
    go_enter Try.func13, Try.ntmps13
    go_wp2_with fail
    refine (HC.out _).mono ?_
    rintro e w1 ⟨rfl, b1⟩
    have B1 := Below.on (Hb.out _) b1
    obtain ⟨y0, y1, y2, y3, y4, _⟩ := row5 (box_row b1)
    have hz := B1.size
    have HF := hide' (l2known_any d N (_, _, _, _, _) v w1 (HV.out _ B1) (by omega) hpar)
    clear b1 HC HV
    go_wp2_with fail
    refine HF.out.mono ?_
    rintro e w2 ⟨rfl, b2⟩
    have B2 := Below.on B1 b2
    go_wp2
    go_ret
    exact ⟨ret_bool HA.out.symm, B2⟩
  | false =>
    have HA : Hid (ansValKnown d v = false) := by simp [Hid, ansValKnown, hb]
    rw [hb] at HC
    clear hb
    go_enter Try.func13, Try.ntmps13
    go_wp2_with fail
    refine (HC.out _).mono ?_
    rintro e w1 ⟨rfl, b1⟩
    have B1 := Below.on (Hb.out _) b1
    go_wp2
    go_ret
    exact ⟨ret_bool HA.out.symm, B1⟩
end Go.Proofs.Ytlhcfipfkodlfaa
/-
  kids of whatever part; countParts and depthOf at every depth.
-/
namespace Go.Proofs.Ytlhcfipfkodlfaa
open Go.RowKit
set_option linter.unusedVariables false
set_option linter.unusedSimpArgs false

theorem shape_leaf {vk vn : Int} {vs : List Int} {vK : List (List Int)} {n : Nat} (h : shapeB vk vn vs vK n = true) (h4 : vk ≠ 4) (h5 : vk ≠ 5) : n = 0 := by
  unfold shapeB bareB at h
  simp [h4, h5] at h
  exact h.1.2

theorem shape_mp {vn : Int} {vs : List Int} {vK : List (List Int)} {n : Nat} (h : shapeB 5 vn vs vK n = true) : vK.length = n ∧ ascB vK = true := by
  unfold shapeB at h
  simp at h
  exact h.2

theorem getD_range (ps : List Value) (n i : Nat) (h : i < n) : ((List.range n).map fun i => ps.getD i .nilIface)[i]? = some (ps.getD i .nilIface) := by
  simp [h]

theorem kids_any (d N : Nat) (p : Value) (v : Vl (d + 1)) (deep : Nat) (w : World) (hp : PSeg (fun b => b < N) w (d + 1) p v) (hN : N ≤ w.heap.size) (hg : goodB (d + 1) v deep = true) (hn : v.2.2.2.2.length ≤ 40) :
    Calls Try.prog 34 #[p] w fun e w' => ∃ u, e = .returned u ∧ PLSeg (fun b => b < w'.heap.size) w' d u v.2.2.2.2 ∧ Below w.heap.size w w' := by
  obtain ⟨vk, vn, vs, vK, vL⟩ := v
  have hsh := ((good_succ _ _ _ _ _ _ _).1 hg).2.1
  simp only at hn ⊢
  have leaf : vL.length = 0 → ∀ w' : World, PLSeg (fun b => b < w'.heap.size) w' d (.slice none 0 0) vL := by
    intro h0 w'
    have : vL = [] := List.eq_nil_of_length_eq_zero h0
    exact ⟨none, 0, by rw [h0], .inl this⟩
  rcases hp with ⟨hk, rfl⟩ | ⟨hk, rfl⟩ | ⟨hk, rfl⟩ | ⟨hk, rfl⟩ | ⟨hk, rfl⟩ | ⟨hk, a, cap, rfl, hc⟩ | ⟨hk, b, ps, rfl, hR, hm, hc⟩
  · simp only at hk
    exact (kids_nullPart _ w).mono fun e w' ⟨he, hw⟩ => ⟨_, he, leaf (shape_leaf hsh (by omega) (by omega)) w', hw ▸ Below.refl _ _⟩
  · simp only at hk
    exact (kids_unknownPart _ w).mono fun e w' ⟨he, hw⟩ => ⟨_, he, leaf (shape_leaf hsh (by omega) (by omega)) w', hw ▸ Below.refl _ _⟩
  · simp only at hk
    exact (kids_boolPart _ w).mono fun e w' ⟨he, hw⟩ => ⟨_, he, leaf (shape_leaf hsh (by omega) (by omega)) w', hw ▸ Below.refl _ _⟩
  · simp only at hk
    exact (kids_intPart _ w).mono fun e w' ⟨he, hw⟩ => ⟨_, he, leaf (shape_leaf hsh (by omega) (by omega)) w', hw ▸ Below.refl _ _⟩
  · simp only at hk
    exact (kids_textPart _ w).mono fun e w' ⟨he, hw⟩ => ⟨_, he, leaf (shape_leaf hsh (by omega) (by omega)) w', hw ▸ Below.refl _ _⟩
  · refine (kids_list a vL.length cap w).mono fun e w' ⟨he, hb⟩ => ⟨_, he, ⟨a, cap, rfl, ?_⟩, hb⟩
    have hsz := hb.size
    rcases hc with h0 | ⟨b, off, e1, hR, hc⟩
    · exact .inl h0
    · refine .inr ⟨b, off, e1, Nat.lt_of_lt_of_le hR (Nat.le_trans hN hsz), fun i hi => ?_⟩
      obtain ⟨u, hu, hv⟩ := hc i hi
      have ag := agree_below (hb.mono hN)
      exact ⟨u, (cell_agree ag hR).trans hu, PSeg.carry (fun b hb => Nat.lt_of_lt_of_le hb (Nat.le_trans hN hsz)) ag d hv⟩
  · simp only at hk hm hc
    subst hk
    obtain ⟨hkl, hasc⟩ := shape_mp hsh
    refine (kids_map b vL.length vK ps w hm (fun i hi => ascB_at hasc (by omega)) (fun i hi => (hc i hi).shape) hn).mono ?_
    rintro e w' ⟨u, rfl, hown, hb⟩
    have hsz := hb.size
    refine ⟨u, rfl, ?_, hb⟩
    rcases hown.2 with ⟨rfl, h0⟩ | ⟨g, cp, cur, rfl, hg, hh, hle, hm, hcs, ht⟩
    · exact leaf h0 w'
    · refine ⟨_, cp, rfl, ?_⟩
      by_cases he : vL = []
      · exact .inl he
      · refine .inr ⟨g, 0, rfl, (Array.getElem?_eq_some_iff.1 hh).1, fun i hi => ⟨ps.getD i .nilIface, ?_, PSeg.carry (fun b hb => Nat.lt_of_lt_of_le hb (Nat.le_trans hN hsz)) (agree_below (hb.mono hN)) d (hc i hi)⟩⟩
        have := hown.cellAt i (by omega)
        rw [Nat.zero_add, this]
        exact getD_range ps vL.length i hi

/-- The contract of a function of a part, at depth d. -/
def PAt (F : Nat) (ans : (d : Nat) → Vl d → Value) (d : Nat) : Prop := ∀ (N : Nat) (p : Value) (v : Vl d) (deep : Nat) (w : World), PSeg (fun b => b < N) w d p v → N ≤ w.heap.size → goodB d v deep = true → partsV d v ≤ 40 →
  Calls Try.prog F #[p] w fun e w' => e = .returned (ans d v) ∧ Below w.heap.size w w'

set_option maxHeartbeats 1600000 in
theorem countParts_succ (d : Nat) (ih : PAt 24 (fun d v => .int .i64 (partsV d v)) d) : PAt 24 (fun d v => .int .i64 (partsV d v)) (d + 1) := by
  intro N p v deep w hp hN hg hn
  obtain ⟨vk, vn, vs, vK, vL⟩ := v
  have hgd := ((good_succ _ _ _ _ _ _ _).1 hg).2.2
  have hps := parts_succ d vk vn vs vK vL
  have hlen : vL.length ≤ 40 := by have := pre_ge d vL vL.length (Nat.le_refl _); omega
  have HK := hide' (kids_any d N p _ deep w hp hN hg hlen)
  have HI := hide' ih
  have HG := hide' hgd
  have HP : Hid (∀ k (hk : k < vL.length), pre (partsV d) vL (k + 1) = pre (partsV d) vL k + partsV d vL[k]) := fun k hk => pre_succ (partsV d) vL k hk
  have HL : Hid (∀ k, pre (partsV d) vL k ≤ 39) := fun k => by
    have h1 := pre_le (partsV d) vL k
    have h2 := pre_all (partsV d) vL
    omega
  have HE := hide' hps
  obtain ⟨pt, px, rfl⟩ := hp.shape
  clear ih hgd hps hp hg hn
  go_enter Try.func24, Try.ntmps24
  go_wp2_with fail
  refine HK.out.mono ?_
  rintro e w1 ⟨u, rfl, hL, b1⟩
  have HLs := hide' hL
  have Hb1 := hide' b1
  obtain ⟨a, cap, rfl, _⟩ := hL
  clear b1 HK
  go_wp2
  go_loopw [3, 5, 9] (fun m _ i wr => ∃ k : Nat, k ≤ vL.length ∧ i = .int .i64 k ∧ m = .int .i64 ((1 + pre (partsV d) vL k : Nat) : Int) ∧ Below w1.heap.size w1 wr) (fun _ _ i _ => vL.length - (intOf i).toNat)
  case atStart => exact ⟨0, Nat.zero_le _, rfl, by rw [pre_zero]; rfl, Below.refl _ _⟩
  case round =>
    obtain ⟨k, hk, rfl, rfl, hbel⟩ := hrel
    have hsz := hbel.size
    by_cases hlt : k < vL.length
    · have hlt' : (k : Int) < (vL.length : Int) := by omega
      obtain ⟨b, off, qt, qx, rfl, hb, hcell, hq⟩ := (HLs.out.grow hbel).at hlt
      have hle := HL.out (k + 1)
      have hps := HP.out k hlt
      have hle0 := HL.out k
      have HC : Hid (Calls Try.prog 24 #[.iface qt qx] wr fun e w' => e = .returned (.int .i64 (partsV d vL[k])) ∧ Below wr.heap.size wr w') := HI.out w1.heap.size _ vL[k] (deep + 1) wr hq hsz (HG.out k hlt) (by omega)
      generalize pre (partsV d) vL k = q at *
      have Hps : Hid (pre (partsV d) vL (k + 1) = q + partsV d vL[k]) := hps
      have hle2 : q + partsV d vL[k] ≤ 39 := by omega
      generalize partsV d vL[k] = m at *
      clear hq hps hle
      go_wp2_with fail
      refine HC.out.mono ?_
      rintro e w2 ⟨rfl, b2⟩
      have B2 := Below.on hbel b2
      clear hcell HC b2
      go_wp2
      go_roundw
      case rel => exact ⟨k + 1, by omega, by go_num, by rw [Hps.out]; go_num, B2⟩
      case measure => simp [intOf]; omega
    · have hkn : k = vL.length := by omega
      have hkn' : ¬ (k : Int) < (vL.length : Int) := by omega
      rw [hkn]
      have B := Below.on Hb1.out hbel
      have HO : Hid (partsV (d + 1) (vk, vn, vs, vK, vL) = 1 + pre (partsV d) vL vL.length) := HE.out
      generalize pre (partsV d) vL vL.length = q at *
      rw [hkn] at hkn'
      clear hkn
      go_wp2
      go_ret
      exact ⟨by rw [HO.out]; rfl, B⟩

set_option maxHeartbeats 1600000 in
theorem depthOf_succ (d : Nat) (ih : PAt 29 (fun d v => .int .i64 (deepV d v)) d) : PAt 29 (fun d v => .int .i64 (deepV d v)) (d + 1) := by
  intro N p v deep w hp hN hg hn
  obtain ⟨vk, vn, vs, vK, vL⟩ := v
  have hgd := ((good_succ _ _ _ _ _ _ _).1 hg).2.2
  have hps := parts_succ d vk vn vs vK vL
  have hlen : vL.length ≤ 40 := by have := pre_ge d vL vL.length (Nat.le_refl _); omega
  have HK := hide' (kids_any d N p _ deep w hp hN hg hlen)
  have HI := hide' ih
  have HG := hide' hgd
  have HP : Hid (∀ k (hk : k < vL.length), mx (deepV d) vL (k + 1) = max (mx (deepV d) vL k) (deepV d vL[k])) := fun k hk => mx_succ (deepV d) vL k hk
  have HKp : Hid (∀ k (hk : k < vL.length), partsV d vL[k] ≤ 40) := fun k hk => (kid_parts hk hn).1
  have HL : Hid (∀ k, k ≤ vL.length → mx (deepV d) vL k ≤ 39) := fun k hk => by
    have h1 := mx_le_pre (deepV d) (partsV d) vL (deep_le d) k hk
    have h2 := pre_le (partsV d) vL k
    have h3 := pre_all (partsV d) vL
    omega
  have HE := hide' (deep_succ d vk vn vs vK vL)
  obtain ⟨pt, px, rfl⟩ := hp.shape
  clear ih hgd hps hp hg hn
  go_enter Try.func29, Try.ntmps29
  go_wp2_with fail
  refine HK.out.mono ?_
  rintro e w1 ⟨u, rfl, hL, b1⟩
  have HLs := hide' hL
  have Hb1 := hide' b1
  obtain ⟨a, cap, rfl, _⟩ := hL
  clear b1 HK
  go_wp2
  go_loopw [3, 5, 9] (fun m _ i wr => ∃ k : Nat, k ≤ vL.length ∧ i = .int .i64 k ∧ m = .int .i64 ((mx (deepV d) vL k : Nat) : Int) ∧ Below w1.heap.size w1 wr) (fun _ _ i _ => vL.length - (intOf i).toNat)
  case atStart => exact ⟨0, Nat.zero_le _, rfl, by rw [mx_zero]; rfl, Below.refl _ _⟩
  case round =>
    obtain ⟨k, hk, rfl, rfl, hbel⟩ := hrel
    have hsz := hbel.size
    by_cases hlt : k < vL.length
    · have hlt' : (k : Int) < (vL.length : Int) := by omega
      obtain ⟨b, off, qt, qx, rfl, hb, hcell, hq⟩ := (HLs.out.grow hbel).at hlt
      have hle := HL.out (k + 1) (by omega)
      have hps := HP.out k hlt
      have hle0 := HL.out k (by omega)
      have HC : Hid (Calls Try.prog 29 #[.iface qt qx] wr fun e w' => e = .returned (.int .i64 (deepV d vL[k])) ∧ Below wr.heap.size wr w') := HI.out w1.heap.size _ vL[k] (deep + 1) wr hq hsz (HG.out k hlt) (HKp.out k hlt)
      have hdl : deepV d vL[k] ≤ 40 := by have := deep_le d vL[k]; have := HKp.out k hlt; omega
      generalize mx (deepV d) vL k = q at *
      have Hps : Hid (mx (deepV d) vL (k + 1) = max q (deepV d vL[k])) := hps
      generalize deepV d vL[k] = m at *
      clear hq hps hle
      go_wp2_with fail
      refine HC.out.mono ?_
      rintro e w2 ⟨rfl, b2⟩
      have B2 := Below.on hbel b2
      clear hcell HC b2
      go_wp2
      go_roundw
      case rel => exact ⟨k + 1, by omega, by go_num, by rw [Hps.out]; go_num, B2⟩
      case measure => simp [intOf]; omega
    · have hkn : k = vL.length := by omega
      have hkn' : ¬ (k : Int) < (vL.length : Int) := by omega
      rw [hkn]
      have B := Below.on Hb1.out hbel
      have HO : Hid (deepV (d + 1) (vk, vn, vs, vK, vL) = mx (deepV d) vL vL.length + 1) := HE.out
      have hle := HL.out vL.length (Nat.le_refl _)
      generalize mx (deepV d) vL vL.length = q at *
      rw [hkn] at hkn'
      clear hkn
      go_wp2
      go_ret
      exact ⟨by rw [HO.out]; rfl, B⟩

end Go.Proofs.Ytlhcfipfkodlfaa
