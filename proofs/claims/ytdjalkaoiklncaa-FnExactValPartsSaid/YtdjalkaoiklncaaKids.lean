/-
  kids of a part: the parts that stand right in it, in order.
-/
import Derived.Test.YtdjalkaoiklncaaFldW
import Derived.Test.YtdjalkaoiklncaaTake3
namespace Go.Proofs.Ytdjalkaoiklncaa
open Go.RowKit
set_option linter.unusedVariables false
set_option linter.unusedSimpArgs false

theorem list_nullPart (x : Value) (w : World) : (Instr.typeAssert (.iface 62 x) 43 72 true).run Try.prog w = .ok (.tuple #[.agg #[.slice none 0 0], .bool false]) w := by kernel_rfl
theorem list_unknownPart (x : Value) (w : World) : (Instr.typeAssert (.iface 63 x) 43 72 true).run Try.prog w = .ok (.tuple #[.agg #[.slice none 0 0], .bool false]) w := by kernel_rfl
theorem list_boolPart (x : Value) (w : World) : (Instr.typeAssert (.iface 65 x) 43 72 true).run Try.prog w = .ok (.tuple #[.agg #[.slice none 0 0], .bool false]) w := by kernel_rfl
theorem list_intPart (x : Value) (w : World) : (Instr.typeAssert (.iface 66 x) 43 72 true).run Try.prog w = .ok (.tuple #[.agg #[.slice none 0 0], .bool false]) w := by kernel_rfl
theorem list_textPart (x : Value) (w : World) : (Instr.typeAssert (.iface 68 x) 43 72 true).run Try.prog w = .ok (.tuple #[.agg #[.slice none 0 0], .bool false]) w := by kernel_rfl
theorem list_mapPart (x : Value) (w : World) : (Instr.typeAssert (.iface 75 x) 43 72 true).run Try.prog w = .ok (.tuple #[.agg #[.slice none 0 0], .bool false]) w := by kernel_rfl
theorem map_nullPart (x : Value) (w : World) : (Instr.typeAssert (.iface 62 x) 43 75 true).run Try.prog w = .ok (.tuple #[.agg #[.map none], .bool false]) w := by kernel_rfl
theorem map_unknownPart (x : Value) (w : World) : (Instr.typeAssert (.iface 63 x) 43 75 true).run Try.prog w = .ok (.tuple #[.agg #[.map none], .bool false]) w := by kernel_rfl
theorem map_boolPart (x : Value) (w : World) : (Instr.typeAssert (.iface 65 x) 43 75 true).run Try.prog w = .ok (.tuple #[.agg #[.map none], .bool false]) w := by kernel_rfl
theorem map_intPart (x : Value) (w : World) : (Instr.typeAssert (.iface 66 x) 43 75 true).run Try.prog w = .ok (.tuple #[.agg #[.map none], .bool false]) w := by kernel_rfl
theorem map_textPart (x : Value) (w : World) : (Instr.typeAssert (.iface 68 x) 43 75 true).run Try.prog w = .ok (.tuple #[.agg #[.map none], .bool false]) w := by kernel_rfl
theorem list_listPart (x : Value) (w : World) : (Instr.typeAssert (.iface 72 x) 43 72 true).run Try.prog w = .ok (.tuple #[x, .bool true]) w := by kernel_rfl
theorem map_mapPart (x : Value) (w : World) : (Instr.typeAssert (.iface 75 x) 43 75 true).run Try.prog w = .ok (.tuple #[x, .bool true]) w := by kernel_rfl

set_option maxHeartbeats 1600000 in
theorem kids_nullPart (x : Value) (w : World) : Calls Try.prog 34 #[.iface 62 x] w fun e w' => e = .returned (.slice none 0 0) ∧ w = w' := by
  have h1 := list_nullPart x w
  have h2 := map_nullPart x w
  go_enter Try.func34, Try.ntmps34
  go_wp2
  go_ret
  exact ⟨rfl, rfl⟩
set_option maxHeartbeats 1600000 in
theorem kids_unknownPart (x : Value) (w : World) : Calls Try.prog 34 #[.iface 63 x] w fun e w' => e = .returned (.slice none 0 0) ∧ w = w' := by
  have h1 := list_unknownPart x w
  have h2 := map_unknownPart x w
  go_enter Try.func34, Try.ntmps34
  go_wp2
  go_ret
  exact ⟨rfl, rfl⟩
set_option maxHeartbeats 1600000 in
theorem kids_boolPart (x : Value) (w : World) : Calls Try.prog 34 #[.iface 65 x] w fun e w' => e = .returned (.slice none 0 0) ∧ w = w' := by
  have h1 := list_boolPart x w
  have h2 := map_boolPart x w
  go_enter Try.func34, Try.ntmps34
  go_wp2
  go_ret
  exact ⟨rfl, rfl⟩
set_option maxHeartbeats 1600000 in
theorem kids_intPart (x : Value) (w : World) : Calls Try.prog 34 #[.iface 66 x] w fun e w' => e = .returned (.slice none 0 0) ∧ w = w' := by
  have h1 := list_intPart x w
  have h2 := map_intPart x w
  go_enter Try.func34, Try.ntmps34
  go_wp2
  go_ret
  exact ⟨rfl, rfl⟩
set_option maxHeartbeats 1600000 in
theorem kids_textPart (x : Value) (w : World) : Calls Try.prog 34 #[.iface 68 x] w fun e w' => e = .returned (.slice none 0 0) ∧ w = w' := by
  have h1 := list_textPart x w
  have h2 := map_textPart x w
  go_enter Try.func34, Try.ntmps34
  go_wp2
  go_ret
  exact ⟨rfl, rfl⟩

set_option maxHeartbeats 1600000 in
theorem kids_list (a : Option Addr) (n c : Nat) (w : World) : Calls Try.prog 34 #[.iface 72 (.agg #[.slice a n c])] w fun e w' => e = .returned (.slice a n c) ∧ Below w.heap.size w w' := by
  have h1 := list_listPart (.agg #[.slice a n c]) w
  have Hb : Hid (∀ o : Obj, Below w.heap.size w (w.alloc o)) := fun o => (Below.refl _ _).alloc (Nat.le_refl _) o
  go_enter Try.func34, Try.ntmps34
  go_wp2
  go_ret
  exact ⟨rfl, Hb.out _⟩

/-- After k rounds: the first k parts. -/
def KP (w wr : World) (ps : List Value) (k : Nat) (v : Value) : Prop := wr.ownsRow w.heap.size 43 1 v k (ps.take k) ∧ Below w.heap.size w wr

set_option maxHeartbeats 3200000 in
theorem kids_map (b n : Nat) (vK : List (List Int)) (ps : List Value) (w : World) (hm : w.ownsMap Try.prog 9 tokR b 64 (mapD vK ps n)) (ha : ∀ i, i < n → stepB vK i = true) (hps : ∀ i, i < n → ∃ t x, ps.getD i .nilIface = .iface t x) (hn : n ≤ 40) :
    Calls Try.prog 34 #[.iface 75 (.agg #[.map (some b)])] w fun e w' => ∃ v, e = .returned v ∧ w'.ownsRow w.heap.size 43 1 v n ((List.range n).map fun i => ps.getD i .nilIface) ∧ Below w.heap.size w w' := by
  have h1 := list_mapPart (.agg #[.map (some b)]) w
  have h2 := map_mapPart (.agg #[.map (some b)]) w
  have HF : Hid (∀ o : Obj, Calls Try.prog 42 #[.agg #[.map (some b)]] (w.alloc o) fun e w' => ∃ u, e = .returned u ∧ FRow w' u vK ps n ∧ Below w.heap.size w w') := by
    intro o
    have b0 : Below w.heap.size w (w.alloc o) := (Below.refl _ _).alloc (Nat.le_refl _) o
    refine (fields_any b n vK ps (w.alloc o) (hm.kept (below_grows b0 none) (by simp)) ha hps hn).mono ?_
    rintro e w' ⟨u, rfl, hF, hb⟩
    exact ⟨u, rfl, hF, Below.on b0 hb⟩
  obtain ⟨i0, hi, hz0, hz1, hz2⟩ := info_parts info_part
  have HPs := hide' hps
  clear hm ha hps
  go_enter Try.func34, Try.ntmps34
  go_wp2_with fail
  refine (HF.out _).mono ?_
  rintro e w1 ⟨u, rfl, hF, hb1⟩
  obtain ⟨fa, fc, rfl, hfc, hfm, hcell⟩ := hF
  have HC := hide' hcell
  have Hb1 := hide' hb1
  unfold maxLen at hfm
  clear hcell HF
  go_wp2
  go_loopw [3, 20] (fun v i wr => ∃ k : Nat, k ≤ n ∧ i = .int .i64 k ∧ wr.ownsRow w1.heap.size 43 1 v k ((List.range k).map fun i => ps.getD i .nilIface) ∧ Below w1.heap.size w1 wr) (fun _ i _ => n - (intOf i).toNat)
  case atStart => exact ⟨0, Nat.zero_le _, rfl, ⟨by simp, .inl ⟨rfl, rfl⟩⟩, Below.refl _ _⟩
  case round =>
    obtain ⟨k, hk, rfl, hown, hbel⟩ := hrel
    have hsz := hbel.size
    by_cases hlt : k < n
    · have hlt' : (k : Int) < (n : Int) := by omega
      have hat : ∃ g, fa = some ⟨g, 0, none⟩ ∧ g < w1.heap.size ∧ wr.cell? ⟨g, k * 2, none⟩ = some (.string (strOf (vK.getD k []))) ∧ wr.cell? ⟨g, k * 2 + 1, none⟩ = some (ps.getD k .nilIface) := by
        rcases HC.out with h0 | ⟨g, rfl, hg, hc⟩
        · omega
        · obtain ⟨c0, c1⟩ := hc k hlt
          exact ⟨g, rfl, hg, (World.cell?_of_block (hbel.block g hg)).trans c0, (World.cell?_of_block (hbel.block g hg)).trans c1⟩
      obtain ⟨g, rfl, hg, c0, c1⟩ := hat
      obtain ⟨pt, px, hp⟩ := HPs.out k hlt
      rw [hp] at c1
      have hvs : ∃ p c, u3 = .slice p k c := by
        rcases hown.2 with ⟨rfl, h0⟩ | ⟨g, cap, cur, rfl, _⟩
        · exact ⟨none, 0, by rw [h0]⟩
        · exact ⟨_, _, rfl⟩
      obtain ⟨vp, vc, rfl⟩ := hvs
      have hz2' : wr.heap.size + 1 ≤ ((wr.alloc (.cells #[.string (strOf (vK.getD k [])), .iface pt px] 79)).alloc (.cells #[.iface pt px] 43)).heap.size := by simp
      have hrw := (hown.alloc (.cells #[.string (strOf (vK.getD k [])), .iface pt px] 79)).alloc (.cells #[.iface pt px] 43)
      have hcn : ∀ j u, [Value.iface pt px][j]? = some u → ((wr.alloc (.cells #[.string (strOf (vK.getD k [])), .iface pt px] 79)).alloc (.cells #[.iface pt px] 43)).cell? ((⟨wr.heap.size + 1, 0, none⟩ : Addr).add j) = some u := by
        have := cell_one_new (wr.alloc (.cells #[.string (strOf (vK.getD k [])), .iface pt px] 79)) (.iface pt px) 43
        simpa using this
      have HX : Hid (∀ w3, ((wr.alloc (.cells #[.string (strOf (vK.getD k [])), .iface pt px] 79)).alloc (.cells #[.iface pt px] 43)).grownBy w3 (Value.slice vp k vc).ownBlock → Below w1.heap.size w1 w3) := by
        intro w3 hg3
        refine ((hbel.alloc hbel.size _).alloc (by simp; omega) _).grown hg3 (by omega) fun j hj => (hown.lt j hj).1
      have HL : Hid (((List.range (k + 1)).map fun i => ps.getD i .nilIface) = ((List.range k).map fun i => ps.getD i .nilIface) ++ [.iface pt px]) := by
        show ((List.range (k + 1)).map fun i => ps.getD i .nilIface) = _
        rw [List.range_succ, List.map_append, List.map_singleton, hp]
      generalize strOf (vK.getD k []) = key at *
      clear hb1 HC hbel hown h1 h2 hp
      go_wp2_with (at_builtin; refine wpList_append_own_at _ rfl _ _ 56 rfl w1.heap.size 43 i0 .nilIface 1 16 Try.underlying56 hi hz0 hz1 hz2 rfl (by decide) _ k _ rfl hrw ⟨wr.heap.size + 1, 0, none⟩ 1 1 [.iface pt px] rfl rfl hcn (by intro u hu; simp at hu; rw [hu]; rfl) (by unfold maxLen; omega) (by omega) (by omega) ?_; intro y' w3 hown' hg3 hnil hloc)
      have hB3 := HX.out w3 hg3
      rw [← HL.out] at hown'
      clear hg3 hnil hloc hrw hcn
      go_wp2
      go_roundw
      case rel => exact ⟨k + 1, by omega, by go_num, hown', hB3⟩
      case measure => simp [intOf]; omega
    · have hkn : k = n := by omega
      subst hkn
      have hkn' : ¬ (k : Int) < (k : Int) := by omega
      have hown' : Hid (wr.ownsRow w.heap.size 43 1 u3 k ((List.range k).map fun i => ps.getD i .nilIface)) := by
        refine ⟨hown.1, ?_⟩
        rcases hown.2 with h0 | ⟨g, cap, cur, rfl, hg, r⟩
        · exact .inl h0
        · exact .inr ⟨g, cap, cur, rfl, by have := Hb1.out.size; omega, r⟩
      have hB := Below.on Hb1.out hbel
      clear hown hbel
      go_wp2
      go_ret
      exact ⟨_, rfl, hown'.out, hB⟩
end Go.Proofs.Ytdjalkaoiklncaa
