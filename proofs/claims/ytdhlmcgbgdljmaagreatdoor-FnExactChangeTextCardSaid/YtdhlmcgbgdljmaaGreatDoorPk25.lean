/-
  Texts that a law leans on, one behind the other; no statement is proved here.
-/
import Derived.Test.YtdhlmcgbgdljmaaGreatDoorPk6
import Derived.Test.YtdhlmcgbgdljmaaGreatDoorPk7
import Derived.Test.YtdhlmcgbgdljmaaGreatDoorPk15
import Derived.Test.YtdhlmcgbgdljmaaGreatDoorPk24
import Derived.Test.YtdhlmcgbgdljmaaGreatDoorPk4
import Derived.Deep.Cut
import Derived.Deep.MidRow
import Derived.Deep.RegionHeld3
import Derived.Test.YtdhlmcgbgdljmaaGreatDoorPk0
import Derived.WalkKit
import Derived.ProofKit
import Derived.ChangeSlices
import Derived.ChangeArms
import Derived.Test.YtdhlmcgbgdljmaaGreatDoorPk2
import Derived.Test.YtdhlmcgbgdljmaaGreatDoorPk3
/-
  FnExactChangeText answers true, whatever change it is handed; it makes new memory and turns nothing old.
-/
namespace Go.Proofs.YtdhlmcgbgdljmaaGreatDoor
open Go.RowKit Go.Shelf
set_option linter.unusedVariables false
set_option linter.unusedSimpArgs false

theorem Seg.stay {w w' : World} {a : Option Addr} {xs : List Int} (h : Seg w a xs) (hx : ∀ x, a = some x → w'.heap[x.block]? = w.heap[x.block]?) : Seg w' a xs := by
  refine ⟨h.1, ?_⟩
  rcases h.2 with h0 | ⟨b, off, rfl, hc⟩
  · exact .inl h0
  · exact .inr ⟨b, off, rfl, fun i hi => (show w'.cell? ⟨b, off + i, none⟩ = w.cell? ⟨b, off + i, none⟩ from World.cell?_of_block (hx ⟨b, off, none⟩ rfl)).trans (hc i hi)⟩

/-- A change, as the cells of one struct. -/
def CX (d : Nat) (x : Chg d) (X : Array Value) (w : World) : Prop := CSg (fun b => b < w.heap.size) w d X.toList x
variable {d : Nat} {it : Chg d} {X Y : Array Value} {w w' : World} {B : List Nat}
theorem CX.on (h : CX d it X w) (hb : Below w.heap.size w w') : CX d it X w' := (CSg.agree h (agree_below hb)).mono fun b hb' => Nat.lt_of_lt_of_le hb' hb.size
theorem CX.size (h : CX d it X w) : X.size = 13 := by
  have := CSg.len h
  rw [Array.length_toList] at this
  exact this
theorem CX.one (h : CX d it X w) : ∀ v ∈ X.toList, v.oneCell' = true := by
  obtain ⟨pa, pc, ok, on, o2, ol2, op2, o3, ol3, op3, o4, ol4, op4, nk, nn, n2, nl2, np2, n3, nl3, np3, n4, nl4, np4, e, -⟩ := CSg.form h
  rw [e]
  intro v hv
  simp only [List.mem_cons, List.not_mem_nil, or_false] at hv
  rcases hv with rfl | rfl | rfl | rfl | rfl | rfl | rfl | rfl | rfl | rfl | rfl | rfl | rfl <;> rfl
theorem CX.sz (h : CX d it X w) : Calls Tryz.prog 4 #[.agg X, .int .i64 1048576] w fun e w' => (e = .returned (.int .i64 (-1)) ∨ ∃ n : Int, 0 ≤ n ∧ n ≤ 1048576 ∧ e = .returned (.int .i64 n) ∧ CSz d it) ∧ Below w.heap.size w w' := by
  have h1 := szChange_any d w.heap.size X.toList it 1048576 w h (Nat.le_refl _) (by omega) (by omega)
  rw [Array.toArray_toList] at h1
  exact h1
theorem CX.to (h : CX d it X w) (hz : CSz d it) : Calls Tryz.prog 6 #[.agg X] w fun e w' => ∃ Y, e = .returned (.agg Y) ∧ ∃ B, COwn w' d Y.toList it B ∧ (∀ b ∈ B, w.heap.size ≤ b ∧ b < w'.heap.size) ∧ Below w.heap.size w w' := by
  have h1 := toChangeO_any d w.heap.size X.toList it w h (Nat.le_refl _) hz
  rw [Array.toArray_toList] at h1
  refine h1.mono ?_
  rintro e w' ⟨cs, rfl, B, hO, hB, hb⟩
  exact ⟨cs.toArray, rfl, B, hO, hB, hb⟩
theorem CX.spec (h : CX d it X w) (hz : CSz d it) : Calls Tryz.prog 5 #[.agg X] w (SayEnd (chgT d it) w) := by
  have h1 := spec_ChangeText_any d w.heap.size X.toList it w h (Nat.le_refl _)
  rw [Array.toArray_toList] at h1
  exact h1
theorem CX.impl (h : CX d it X w) (hz : CSz d it) (hT : Tab w.heap.size w) : Calls Tryz.prog 7 #[.agg X] w (TxEnd (chgT d it) w) := by
  have h1 := impl_ChangeText_any d w.heap.size X.toList it w h (Nat.le_refl _) hT
  rw [Array.toArray_toList] at h1
  exact h1
theorem CX.eq (h : CX d it X w) (k : CX d it Y w) (hz : CSz d it) : Calls Tryz.prog 9 #[.agg X, .agg Y] w fun e w' => e = .returned (.bool true) ∧ Below w.heap.size w w' := by
  have h1 := eqChange_any d w.heap.size X.toList Y.toList it w h k (Nat.le_refl _) hz
  rw [Array.toArray_toList, Array.toArray_toList] at h1
  exact h1
theorem COwn.ix (h : COwn w d X.toList it B) : CX d it X w := h.read
theorem mark_chg {d : Nat} {it : Chg (d + 1)} {X : Array Value} (h : COwn w (d + 1) X.toList it B) (hz : CSz (d + 1) it) : Calls Tryz.prog 10 #[.agg X, .int .i64 1] w fun e w' => (∃ n : Nat, e = .returned (.int .i64 (n : Int)) ∧ n ≤ 1125899906842624) ∧ Turned B w w' := by
  have h1 := markChange_any d X.toList it B w h hz
  rw [Array.toArray_toList] at h1
  exact h1
theorem chgT_short {d : Nat} (x : Chg d) (hz : CSz d x) : (chgT d x).length ≤ 100000 := by
  have := chgT_len (x := x)
  omega

theorem range_on {g : Nat} {cs : Array Value} {T : TypeId} {fr : Nat × Nat} (h : w.heap[g]? = some (.cells cs T fr)) (hb : Below w.heap.size w w') : w'.rangeAt g 0 cs.toList :=
  range_of_row (T := T) (fr := fr) (((hb.block g (Array.getElem?_eq_some_iff.1 h).1).trans h).trans (by simp))
theorem range_below {g : Nat} {cs : List Value} (h : w.rangeAt g 0 cs) (hg : g < w.heap.size) (hb : Below w.heap.size w w') : w'.rangeAt g 0 cs := fun j v hv => (World.cell?_of_block (hb.block g hg)).trans (h j v hv)

set_option maxHeartbeats 6400000 in
set_option maxRecDepth 100000 in
theorem walk_FnExactChangeText_succ {d : Nat} {it : Chg (d + 1)} (A : Array Value) (w : World) (hT : Tab w.heap.size w) (hA : CX (d + 1) it A w) :
    Calls Tryz.prog 3 #[.agg A] w fun e w' => e = .returned (.bool true) ∧ Below w.heap.size w w' := by
  have HTab := hide' hT
  clear hT
  have b0 : Hid (∀ o : Obj, Below w.heap.size w (w.alloc o)) := fun o => (Below.refl _ _).alloc (Nat.le_refl _) o
  have HA := hide' hA
  have has := hA.size
  have HR : Hid (∀ wx, Below (w.alloc (.cells A 29)).heap.size (w.alloc (.cells A 29)) wx → wx.rangeAt w.heap.size 0 A.toList) := fun wx hb => range_on (MapKept.heap_alloc w _).1 hb
  have hi28 : (Tryz.prog.info? 29).map (·.size) = some A.toList.length := by rw [Array.length_toList, has]; kernel_rfl
  have r0 := HR.out _ (Below.refl _ _)
  have HS0 := hide' ((hA.on (b0.out (.cells A 29))).sz)
  clear hA
  go_enter Tryz.func3, Tryz.ntmps3
  go_wp2_with (refine wpList_load_mid rfl 29 (.tmp 1) (by rfl) w.heap.size 0 (by rfl) A.toList _ r0 Tryz.underlying29 rfl hi28 ?_; rw [Array.toArray_toList])
  refine HS0.out.mono ?_
  rintro e w1 ⟨hcase, b1⟩
  have B1 := hide' b1
  clear b1 HS0 r0
  rcases hcase with rfl | ⟨n, hn0, hn1, rfl, hz⟩
  · go_wp2
    go_ret
    exact ⟨rfl, Below.on (b0.out _) B1.out⟩
  have HZ := hide' hz
  have hks := chgT_short it hz
  have HSp : Hid (∀ X wx, CX (d + 1) it X wx → Calls Tryz.prog 5 #[.agg X] wx (SayEnd (chgT (d + 1) it) wx)) := fun X wx h => h.spec HZ.out
  have HIm : Hid (∀ X wx, CX (d + 1) it X wx → Below w.heap.size w wx → Calls Tryz.prog 7 #[.agg X] wx (TxEnd (chgT (d + 1) it) wx)) := fun X wx h hb => h.impl HZ.out (fun w' h' => HTab.out w' (Below.on hb h'))
  generalize chgT (d + 1) it = xs at *
  have HEK : Hid (∀ a c a' c' N wx, Bts wx N (.slice a xs.length c) xs → Seg wx a' xs → Calls Tryz.prog 8 #[.slice a xs.length c, .slice a' xs.length c'] wx fun e w' => e = .returned (.bool true) ∧ Below wx.heap.size wx w') := fun a c a' c' N wx h h' => eqByteS_same a a' c c' xs wx h.seg h' (by omega)
  have HMK : Hid (∀ a c N wx, Bts wx N (.slice a xs.length c) xs → Calls Tryz.prog 11 #[.slice a xs.length c, .int .i64 1] wx fun e w' => e = .returned (.int .i64 ((1 + xs.length : Nat) : Int)) ∧ Bts w' N (.slice a xs.length c) (marks 1 xs.length) ∧ wx.grownBy w' (Value.slice a xs.length c).ownBlock) := fun a c N wx h => markByteS_any N a c xs 1 wx h (by omega) (by omega)
  have HHK : Hid (∀ a c N wx, Bts wx N (.slice a xs.length c) (marks 1 xs.length) → Calls Tryz.prog 12 #[.slice a xs.length c, .int .i64 1] wx fun e w' => e = .returned (.int .i64 ((1 + xs.length : Nat) : Int)) ∧ Below wx.heap.size wx w') := fun a c N wx h => heldByteS_any a c 1 xs.length wx h.seg (by omega) (by omega)
  have r1 := HR.out _ B1.out
  have HT1 := hide' ((HA.out.on (Below.on (b0.out (.cells A 29)) B1.out)).to hz)
  clear hz
  go_wp2_with (refine wpList_load_mid rfl 29 (.tmp 1) (by rfl) w.heap.size 0 (by rfl) A.toList _ r1 Tryz.underlying29 rfl hi28 ?_; rw [Array.toArray_toList])
  refine HT1.out.mono ?_
  rintro e w2 ⟨X2, rfl, Bx, hX2, hBx, b2⟩
  have B2 := hide' (Below.on B1.out b2)
  have HS2 := hide' (HSp.out _ _ hX2.ix)
  clear hX2 hBx b2 HT1 r1
  go_wp2_with fail
  refine HS2.out.mono ?_
  rintro e w3 ⟨Wa, Wc, rfl, hW3, _, hBw0, b3⟩
  have HBw : Hid (∀ x, Wa = some x → x.block < w3.heap.size) := fun x hx => (hBw0 x hx).2
  have B3 := hide' (Below.on B2.out b3)
  have r3 := HR.out _ B3.out
  have HT3 := hide' ((HA.out.on (Below.on (b0.out (.cells A 29)) B3.out)).to HZ.out)
  have HW3 := hide' hW3
  clear b3 HS2 B2 hW3 hBw0
  go_upto_region 6 with fail
  have hi35 : ∀ X : Array Value, X.size = 13 → (Tryz.prog.info? 37).map (·.size) = some X.toList.length := fun X h => by rw [Array.length_toList, h]; kernel_rfl
  have hi35' : ∀ X : Array Value, X.size = 13 → (Tryz.prog.info? 37).map (·.size) = some X.size := fun X h => by rw [h]; kernel_rfl
  have HI35 := hide' hi35
  have HI35' := hide' hi35'
  clear hi35 hi35'
  go_wp2_with (refine wpList_load_mid rfl 29 (.tmp 1) (by rfl) w.heap.size 0 (by rfl) A.toList _ r3 Tryz.underlying29 rfl hi28 ?_; rw [Array.toArray_toList])
  refine HT3.out.mono ?_
  rintro e w4 ⟨X, rfl, B4, hX4, hB4, b4⟩
  have hXs := hX4.ix.size
  have hth : (w4.alloc (.cells #[.slice none 0 0, .bool false, .int .i64 0, .int .i64 0, .slice none 0 0, .slice none 0 0, .slice none 0 0, .bool false, .int .i64 0, .int .i64 0, .slice none 0 0, .slice none 0 0, .slice none 0 0] 37)).there w4.heap.size 0 X.size := by rw [hXs]; exact there_of_row (MapKept.heap_alloc w4 _).1
  have hrs := World.rangeAt_setCells_same (w4.alloc (.cells #[.slice none 0 0, .bool false, .int .i64 0, .int .i64 0, .slice none 0 0, .slice none 0 0, .slice none 0 0, .bool false, .int .i64 0, .int .i64 0, .slice none 0 0, .slice none 0 0, .slice none 0 0] 37)) w4.heap.size 0 X.toList (by rw [Array.length_toList]; exact hth)
  have hg := grown_setCells w4.heap.size X.toList 0 (w4.alloc (.cells #[.slice none 0 0, .bool false, .int .i64 0, .int .i64 0, .slice none 0 0, .slice none 0 0, .slice none 0 0, .bool false, .int .i64 0, .int .i64 0, .slice none 0 0, .slice none 0 0, .slice none 0 0] 37))
  have b5 : Below w4.heap.size w4 ((w4.alloc (.cells #[.slice none 0 0, .bool false, .int .i64 0, .int .i64 0, .slice none 0 0, .slice none 0 0, .slice none 0 0, .bool false, .int .i64 0, .int .i64 0, .slice none 0 0, .slice none 0 0, .slice none 0 0] 37)).setCells w4.heap.size 0 X.toList) := ((Below.refl _ _).alloc (Nat.le_refl _) _).grown hg (by simp) (by intro k hk; simp at hk; omega)
  have hlt5 : w4.heap.size < ((w4.alloc (.cells #[.slice none 0 0, .bool false, .int .i64 0, .int .i64 0, .slice none 0 0, .slice none 0 0, .slice none 0 0, .bool false, .int .i64 0, .int .i64 0, .slice none 0 0, .slice none 0 0, .slice none 0 0] 37)).setCells w4.heap.size 0 X.toList).heap.size := Nat.lt_of_lt_of_le (show w4.heap.size < _ by rw [World.size_alloc]; omega) hg.size
  have hone := all_oneCell_toArray hX4.ix.one
  rw [Array.toArray_toList] at hone
  have hst := HI35'.out X hXs
  have hlt := HI35.out X hXs
  have B5 := hide' (Below.on (Below.on B3.out b4) b5)
  have HX5 := hide' (hX4.on b5)
  have HI5 := hide' (HIm.out _ _ (hX4.on b5).ix (Below.on (b0.out _) B5.out))
  have HW5 := hide' ((HW3.out.grow b4).grow b5)
  have HB4 := hide' hB4
  have hz4 : w3.heap.size ≤ w4.heap.size := b4.size
  have HZ3 : Hid ((w.alloc (.cells A 29)).heap.size ≤ w3.heap.size) := B3.out.size
  clear b4 b5 hX4 HT3 r3 hg B3 hB4 HW3
  go_wp2_with (first | (refine wpList_store_mid rfl 37 (.tmp 5) (.tmp 20) (by rfl) w4.heap.size 0 X (by rfl) (by rfl) hth hst hone ?_) | (refine wpList_load_mid rfl 37 (.tmp 5) (by rfl) w4.heap.size 0 (by rfl) X.toList _ hrs Tryz.underlying37 rfl hlt ?_; rw [Array.toArray_toList]))
  refine HI5.out.mono ?_
  rintro e w6 ⟨Ga, Gc, rfl, hG6, b6⟩
  have B6 := hide' (Below.on B5.out b6)
  have hr6 := range_below hrs hlt5 b6
  have hz6 : w4.heap.size < w6.heap.size := Nat.lt_of_lt_of_le hlt5 b6.size
  have HX6 := hide' (HX5.out.on b6)
  have hW6 := HW5.out.grow b6
  have hE6 := hide' (HEK.out _ _ _ Wc _ _ hG6 hW6)
  have HBg : Hid (∀ k, (Value.slice Ga xs.length Gc).ownBlock = some k → w4.heap.size + 1 ≤ k) := fun k hk => Nat.le_trans hlt5 (hG6.2.lt k hk).1
  have HG6 := hide' hG6
  have HW6 := hide' hW6
  clear HI5 hrs hlt5 b6 HX5 B5 hth hone hst hG6 hW6 HW5
  go_wp2_with fail
  refine hE6.out.mono ?_
  rintro e w7 ⟨rfl, b7⟩
  have B7 := hide' (Below.on B6.out b7)
  have hr7 := range_below hr6 hz6 b7
  have r7 := HR.out _ B7.out
  have hz7 : w4.heap.size < w7.heap.size := Nat.lt_of_lt_of_le hz6 b7.size
  have HX7 := hide' (HX6.out.on b7)
  have HG7 := hide' (HG6.out.grow b7)
  have HW7 := hide' (HW6.out.grow b7)
  have hz67 : w6.heap.size ≤ w7.heap.size := b7.size
  clear hE6 b7 hr6 HX6 HG6 HW6 B6
  have HT6 : Hid (Calls Tryz.prog 6 #[.agg A] w7.drew fun e wa => ∃ Y, e = .returned (.agg Y) ∧ (wa.rangeAt w.heap.size 0 A.toList ∧ wa.rangeAt w4.heap.size 0 X.toList) ∧ Hid (Calls Tryz.prog 9 #[.agg X, .agg Y] wa fun e w8 => e = .returned (.bool true) ∧ (w8.rangeAt w.heap.size 0 A.toList ∧ w8.rangeAt w4.heap.size 0 X.toList) ∧ Hid (Below w7.heap.size w7 w8))) := by
    refine ((HA.out.on (Below.on (b0.out (.cells A 29)) B7.out).drew).to HZ.out).mono ?_
    rintro e wa ⟨Y, rfl, By, hY, hBy, ba⟩
    have b7a : Below w7.heap.size w7 wa := Below.on (Below.refl _ w7).drew ba
    refine ⟨Y, rfl, ⟨HR.out _ (Below.on B7.out b7a), range_below hr7 hz7 b7a⟩, ?_⟩
    refine ((HX7.out.on b7a).ix.eq hY.ix HZ.out).mono ?_
    rintro e w8 ⟨rfl, b8⟩
    have b78 := Below.on b7a b8
    exact ⟨rfl, ⟨HR.out _ (Below.on B7.out b78), range_below hr7 hz7 b78⟩, b78⟩
  go_upto_region 10 with fail
  refine wp_region_held_drew (S := fun wx => wx.rangeAt w.heap.size 0 A.toList ∧ wx.rangeAt w4.heap.size 0 X.toList) (by kernel_rfl) ⟨r7, hr7⟩ (fun hHeld => ?_)
  refine wpAnyH_take (i := 0) (oi := { dst := some 27, op := .load 37 (.tmp 5), type := 37, pos := "exact.go:3608", after := #[], guard := none }) rfl (by kernel_rfl) (by kernel_rfl) (by kernel_rfl) (fun _ _ _ h => h) (yieldsIf_load_mid (by rfl) 37 (.tmp 5) rfl w4.heap.size 0 (by rfl) X.toList _ (fun _ h => h.2) Tryz.underlying37 rfl hlt) hHeld ?_
  rw [show X.toList.toArray = X from Array.toArray_toList]
  simp only [Act.put, List.setIfInBounds_toArray, List.set_cons_zero, List.set_cons_succ]
  refine wpAnyH_take (i := 1) (oi := { dst := some 28, op := .load 29 (.tmp 1), type := 29, pos := "exact.go:3608", after := #[], guard := none }) rfl (by kernel_rfl) (by kernel_rfl) (by kernel_rfl) (fun _ _ _ h => h) (yieldsIf_load_mid (by rfl) 29 (.tmp 1) rfl w.heap.size 0 (by rfl) A.toList _ (fun _ h => h.1) Tryz.underlying29 rfl hi28) hHeld ?_
  rw [show A.toList.toArray = A from Array.toArray_toList]
  simp only [Act.put, List.setIfInBounds_toArray, List.set_cons_zero, List.set_cons_succ]
  refine wpAnyH_ready (rs := [2]) (by kernel_rfl) (by simp) ?_
  refine AllReadyH.cons (o := { dst := some 29, op := .call { callee := .value (.func 6), args := #[.tmp 28], argTypes := #[29] }, type := 37, pos := "exact.go:3608", after := #[{ on := 1, ground := .data }], guard := none }) rfl (fun K hK => ?_) AllReadyH.nil
  go_simp
  go_at_call 6
  refine HT6.out.mono ?_
  rintro e wa ⟨Y, rfl, hSa, hEa⟩
  go_wp2_with fail
  refine hK.out _ _ hSa (fun hHeld7 => ?_)
  clear hK
  (try simp only [Act.put, List.setIfInBounds_toArray, List.set_cons_zero, List.set_cons_succ])
  refine wpAnyH_ready (rs := [3]) (by kernel_rfl) (by simp) ?_
  refine AllReadyH.cons (o := { dst := some 30, op := .call { callee := .value (.func 9), args := #[.tmp 27, .tmp 29], argTypes := #[37, 37] }, type := 4, pos := "exact.go:3608", after := #[{ on := 0, ground := .data }, { on := 2, ground := .data }, { on := 2, ground := .chain }], guard := none }) rfl (fun K hK => ?_) AllReadyH.nil
  go_simp
  go_at_call 9
  refine hEa.out.mono ?_
  rintro e w8 ⟨rfl, hS8, hb8⟩
  go_wp2_with fail
  refine hK.out _ _ hS8 (fun hHeld8 => ?_)
  clear hK
  (try simp only [Act.put, List.setIfInBounds_toArray, List.set_cons_zero, List.set_cons_succ])
  refine wpAnyH_ready (rs := [4]) (by kernel_rfl) (by simp) ?_
  refine AllReadyH.cons (o := { dst := some 31, op := .unOp .not 4 (.tmp 30), type := 4, pos := "exact.go:3608", after := #[{ on := 3, ground := .data }], guard := none }) rfl (fun K hK => ?_) AllReadyH.nil
  go_simp
  refine hK.out _ _ hS8 (fun hHeld9 => ?_)
  clear hK
  (try simp only [Act.put, List.setIfInBounds_toArray, List.set_cons_zero, List.set_cons_succ])
  refine wpAnyH_done (by kernel_rfl) ?_ _
  have hr8 := hS8.2
  have hM8 := hide' (mark_chg (HX7.out.on hb8.out) HZ.out)
  have HG8 := hide' (HG7.out.grow hb8.out)
  have HW8 := hide' (HW7.out.grow hb8.out)
  have B8 := hide' (Below.on B7.out hb8.out)
  have hz78 : w7.heap.size ≤ w8.heap.size := hb8.out.size
  clear HT6 hEa HX7 HG7 HW7 B7 hr7 r7 hS8 hSa hHeld hHeld7 hHeld8 hHeld9 hb8
  go_wp2_with (refine wpList_load_mid rfl 37 (.tmp 5) (by rfl) w4.heap.size 0 (by rfl) X.toList _ hr8 Tryz.underlying37 rfl hlt ?_; rw [Array.toArray_toList])
  refine hM8.out.mono ?_
  rintro e w9 ⟨⟨mk, rfl, hmk⟩, hT9⟩
  have hG9 := HG8.out.far hT9 (fun b hb hb' => by have h1 := HBg.out b hb; have h2 := HB4.out b hb'; omega)
  have hW9 := HW8.out.stay (fun x hx => hT9.block x.block (by have h1 := HBw.out x hx; omega) (fun hb' => by have h1 := HBw.out x hx; have h2 := HB4.out x.block hb'; omega))
  have B9 := hide' (Turned.below B8.out hT9 (Nat.le_refl _) (fun b hb => by have h2 := HB4.out b hb; have h3 := HZ3.out; omega))
  have hE9 := hide' (HEK.out _ _ _ Wc _ _ hG9 hW9)
  have hz9 : w8.heap.size ≤ w9.heap.size := hT9.size
  have HG9 := hide' hG9
  have HW9 := hide' hW9
  clear hT9 hG9 hW9 HG8 HW8 B8 hM8 hr8
  go_wp2_with fail
  refine hE9.out.mono ?_
  rintro e w10 ⟨rfl, b10⟩
  have hM10 := hide' (HMK.out _ _ _ _ (HG9.out.grow b10))
  have HW10 := hide' (HW9.out.grow b10)
  have B10 := hide' (Below.on B9.out b10)
  have hz10 : w9.heap.size ≤ w10.heap.size := b10.size
  clear b10 hE9 HG9 HW9 B9
  go_wp2_with fail
  refine hM10.out.mono ?_
  rintro e w11 ⟨rfl, hG11, hg11⟩
  have HW11 := hide' (HW10.out.stay (w' := w11) (fun x hx => hg11.block x.block (by have h1 := HBw.out x hx; omega) (fun e => by have h1 := HBw.out x hx; have h2 := HBg.out x.block e.symm; omega)))
  have B11 := hide' (B10.out.grown hg11 B10.out.size (fun k hk => by have h2 := HBg.out k hk; have h3 := HZ3.out; omega))
  have hH11 := hide' (HHK.out _ _ _ _ hG11)
  have HG11 := hide' hG11
  clear hG11 hg11 hM10 HW10 B10
  go_wp2_with fail
  refine hH11.out.mono ?_
  rintro e w12 ⟨rfl, b12⟩
  have B12 := hide' (Below.on B11.out b12)
  have r12 := HR.out _ B12.out
  have HT12 := hide' ((HA.out.on (Below.on (b0.out (.cells A 29)) B12.out)).to HZ.out)
  have HG12 := hide' (HG11.out.grow b12)
  have HW12 := hide' (HW11.out.grow b12)
  clear b12 hH11 HG11 HW11 B11
  go_wp2_with (refine wpList_load_mid rfl 29 (.tmp 1) (by rfl) w.heap.size 0 (by rfl) A.toList _ r12 Tryz.underlying29 rfl hi28 ?_; rw [Array.toArray_toList])
  refine HT12.out.mono ?_
  rintro e w13 ⟨X13, rfl, B13x, hX13, hB13, b13⟩
  have B13 := hide' (Below.on B12.out b13)
  have hI13 := hide' (HIm.out _ _ hX13.ix (Below.on (b0.out _) B13.out))
  have HG13 := hide' (HG12.out.grow b13)
  have HW13 := hide' (HW12.out.grow b13)
  clear hX13 hB13 b13 HT12 HG12 HW12 B12 r12
  go_wp2_with fail
  refine hI13.out.mono ?_
  rintro e w14 ⟨Ha, Hc, rfl, hH14, b14⟩
  have hE14 := hide' (HEK.out _ _ _ Wc _ _ hH14 (HW13.out.grow b14))
  have HG14 := hide' (HG13.out.grow b14)
  have B14 := hide' (Below.on B13.out b14)
  clear hH14 b14 hI13 HG13 HW13 B13
  go_wp2_with fail
  refine hE14.out.mono ?_
  rintro e w15 ⟨rfl, b15⟩
  have hH15 := hide' (HHK.out _ _ _ _ (HG14.out.grow b15))
  have B15 := hide' (Below.on B14.out b15)
  clear b15 hE14 HG14 B14
  go_wp2_with fail
  refine hH15.out.mono ?_
  rintro e w16 ⟨rfl, b16⟩
  have B16 := hide' (Below.on (b0.out _) (Below.on B15.out b16))
  clear b16 hH15 B15
  go_wp2
  go_ret
  exact ⟨rfl, B16.out⟩

theorem walk_FnExactChangeText (d : Nat) (it : Chg d) (A : Array Value) (w : World) (hT : Tab w.heap.size w) (hA : CX d it A w) :
    Calls Tryz.prog 3 #[.agg A] w fun e w' => e = .returned (.bool true) ∧ Below w.heap.size w w' := by
  cases d with
  | zero =>
    obtain ⟨_, _, _, _, _, _, _, _, _, _, _, _, _, hv, _⟩ := hA
    exact hv.elim
  | succ d => exact walk_FnExactChangeText_succ A w hT hA
end Go.Proofs.YtdhlmcgbgdljmaaGreatDoor
/-
  A text that came in, as its reading has it, can be read: 'TSeg'.
-/
namespace Go.Proofs.YtdhlmcgbgdljmaaGreatDoor
open Go.ChangeShapes Go.WideShapes Go.ChangeAt Go.RowKit
set_option linter.unusedVariables false
set_option linter.unusedSimpArgs false
set_option maxRecDepth 100000

theorem cellsT : Tryz.prog.cellsOf 23 = 1 := by kernel_rfl
theorem cellsI : Tryz.prog.cellsOf 3 = 1 := by kernel_rfl

theorem list_of {α : Type} {Q : Nat → α → Prop} : ∀ n, (∀ i, i < n → ∃ x, Q i x) → ∃ l : List α, l.length = n ∧ ∀ i (h : i < l.length), Q i l[i]
  | 0, _ => ⟨[], rfl, fun i h => by simp at h⟩
  | n + 1, hq => by
    obtain ⟨l, hl, hi⟩ := list_of n (fun i hi => hq i (by omega))
    obtain ⟨x, hx⟩ := hq n (by omega)
    refine ⟨l ++ [x], by simp [hl], fun i h => ?_⟩
    by_cases e : i < l.length
    · rw [List.getElem_append_left e]; exact hi i e
    · have : i = n := by simp at h; omega
      subst this
      rw [List.getElem_append_right (by omega)]
      simpa using hx

variable {H : Type} {enc : TypeId × Value → H} {w : World}

theorem read_text {fuel : Nat} {cs : List Value} {x : DataW H × List MemPlace} (h : DataW.trod enc Tryz.prog w 0 (fun _ => true) true fuel 23 cs = some x) : ∃ u xs, cs = [u] ∧ TSeg (fun b => b < w.heap.size) w u xs := by
  rcases open_ints Tryz.underlying23 Tryz.underlying5 (by kernel_rfl) h with ⟨rfl, _⟩ | ⟨a, len, cap, zs, rfl, _, hl, hm, hz, _, hcell, hwz⟩
  · exact ⟨_, [], rfl, none, 0, rfl, ⟨by simp, .inl rfl⟩, Nat.le_refl _, Nat.zero_le _, fun _ => rfl, by simp⟩
  · obtain ⟨xs, e, hs, h1, h2, h3⟩ := seg_of_row (w := w) (a := some a) (len := len) (cap := cap) (zs := zs) (.inr ⟨a, rfl, hl, hm, by simpa using hz, hcell, hwz⟩)
    subst e
    exact ⟨_, xs, rfl, some a, cap, rfl, hs, h1, h2, h3, hs.lt⟩

end Go.Proofs.YtdhlmcgbgdljmaaGreatDoor
/-
  A value that came in, as its reading has it, can be read: 'VSeg'.
-/
namespace Go.Proofs.YtdhlmcgbgdljmaaGreatDoor
open Go.ChangeShapes Go.WideShapes Go.ChangeAt Go.RowKit
set_option linter.unusedVariables false
set_option linter.unusedSimpArgs false
set_option maxRecDepth 100000

theorem cellsK : Tryz.prog.cellsOf 24 = 1 := by kernel_rfl
theorem cellsL : Tryz.prog.cellsOf 25 = 1 := by kernel_rfl
theorem cellsV : Tryz.prog.cellsOf 27 = 5 := by kernel_rfl
variable {H : Type} {enc : TypeId × Value → H} {w : World}

theorem read_keys {fuel : Nat} {cs : List Value} {x : DataW H × List MemPlace} (h : DataW.trod enc Tryz.prog w 0 (fun _ => true) true fuel 24 cs = some x) : ∃ u ks, cs = [u] ∧ KSeg (fun b => b < w.heap.size) w u ks := by
  rcases DataW.trod_slice Tryz.underlying24 h with ⟨rfl, _⟩ | ⟨a, len, cap, elems, rest, n, _, rfl, _, hb, hl, hm, hlen, hel, hsp, hns⟩
  · exact ⟨_, [], rfl, none, 0, rfl, Nat.le_refl _, Nat.zero_le _, fun _ => rfl, .inl rfl⟩
  · have hq : ∀ i, i < len → ∃ xs : List Int, ∃ u, w.cell? (a.add i) = some u ∧ TSeg (fun b => b < w.heap.size) w u xs := by
      intro i hi
      have h1 := hel i hi
      rw [cellsT, Nat.mul_one, List.getElem?_eq_getElem (by omega)] at h1
      obtain ⟨cs', hc, ht⟩ := Option.bind_eq_some_iff.1 h1
      obtain ⟨u, xs, rfl, hT⟩ := read_text ht
      exact ⟨xs, u, cell_of_cells?_one hc, hT⟩
    obtain ⟨ks, hkl, hks⟩ := list_of len hq
    subst hkl
    refine ⟨_, ks, rfl, some a, cap, rfl, hl, hm, by simp, ?_⟩
    by_cases he : ks = []
    · exact .inl he
    · have hp : 0 < ks.length := List.length_pos_iff.2 he
      obtain ⟨b, off, spot⟩ := a
      obtain ⟨u0, hu0, _⟩ := hks 0 hp
      have hspot : spot = none := by simpa [Addr.add] using World.cell?_spot hu0
      subst hspot
      refine .inr ⟨b, off, rfl, ?_, fun i hi => ?_⟩
      · have := World.block_lt_of_cell? w _ hu0
        simpa [Addr.add] using this
      · obtain ⟨u, hu, hT⟩ := hks i hi
        rw [Addr.add_lit] at hu
        exact ⟨u, hu, by simpa [List.getD_eq_getElem?_getD, hi] using hT⟩

theorem read_five {fuel : Nat} {cs : List Value} {x : DataW H × List MemPlace} (h : DataW.trod enc Tryz.prog w 0 (fun _ => true) true (fuel + 1) 27 cs = some x) :
    ∃ c0 c1 c2 c3 c4 y0 y1 y2 y3 y4, cs = [c0, c1, c2, c3, c4] ∧ DataW.trod enc Tryz.prog w 0 (fun _ => true) true fuel 3 [c0] = some y0 ∧ DataW.trod enc Tryz.prog w 0 (fun _ => true) true fuel 3 [c1] = some y1 ∧
      DataW.trod enc Tryz.prog w 0 (fun _ => true) true fuel 23 [c2] = some y2 ∧ DataW.trod enc Tryz.prog w 0 (fun _ => true) true fuel 24 [c3] = some y3 ∧ DataW.trod enc Tryz.prog w 0 (fun _ => true) true fuel 25 [c4] = some y4 := by
  unfold DataW.trod at h
  rw [Tryz.underlying27] at h
  simp only [cellsV] at h
  split at h
  · next hlen =>
    match cs, hlen with
    | [c0, c1, c2, c3, c4], _ =>
      simp [cellsT, cellsK, cellsL, cellsI, List.mapM_cons, Option.bind_eq_some_iff] at h
      obtain ⟨a0, b0, h0, _, ⟨a1, b1, h1, _, ⟨a2, b2, h2, _, ⟨a3, b3, h3, _, ⟨a4, b4, h4, _⟩, _⟩, _⟩, _⟩, _⟩ := h
      exact ⟨c0, c1, c2, c3, c4, _, _, _, _, _, rfl, h0, h1, h2, h3, h4⟩
  · simp at h

/-- How deep what is read with that fuel is at most. -/
def dep : Nat → Nat
  | 0 => 0
  | 1 => 0
  | f + 2 => dep f + 1

def ReadAt (enc : TypeId × Value → H) (w : World) (f : Nat) : Prop := ∀ (cs : List Value) (x : DataW H × List MemPlace), DataW.trod enc Tryz.prog w 0 (fun _ => true) true f 27 cs = some x →
  ∃ (c0 c1 c2 c3 c4 : Value) (v : Vl (dep f)), cs = [c0, c1, c2, c3, c4] ∧ VSeg (fun b => b < w.heap.size) w (dep f) (c0, c1, c2, c3, c4) v

theorem read_step (f : Nat) (ih : ReadAt enc w f) : ReadAt enc w (f + 2) := by
  intro cs x h
  obtain ⟨c0, c1, c2, c3, c4, y0, y1, y2, y3, y4, rfl, h0, h1, h2, h3, h4⟩ := read_five h
  obtain ⟨n0, e0, _, _⟩ := DataW.trod_int Tryz.underlying3 h0
  obtain ⟨n1, e1, _, _⟩ := DataW.trod_int Tryz.underlying3 h1
  obtain ⟨u2, xs, e2, hT⟩ := read_text h2
  obtain ⟨u3, ks, e3, hK⟩ := read_keys h3
  simp at e0 e1 e2 e3
  subst e0 e1 e2 e3
  have hL : ∃ l : List (Vl (dep f)), LSeg (fun b => b < w.heap.size) w (dep f) c4 l := by
    rcases DataW.trod_slice Tryz.underlying25 h4 with ⟨e, _⟩ | ⟨a, len, cap, elems, rest, n, hn, e, _, hb, hl, hm, hlen, hel, hsp, hns⟩
    · simp at e
      subst e
      exact ⟨[], none, 0, rfl, Nat.le_refl _, Nat.zero_le _, fun _ => rfl, .inl rfl⟩
    · simp at e
      subst e
      obtain rfl : n = f := by omega
      have hq : ∀ i, i < len → ∃ v : Vl (dep n), ∃ c0 c1 c2 c3 c4, (∀ j, j < 5 → w.cell? ((a.add (i * 5)).add j) = [c0, c1, c2, c3, c4][j]?) ∧ VSeg (fun b => b < w.heap.size) w (dep n) (c0, c1, c2, c3, c4) v := by
        intro i hi
        have h1 := hel i hi
        rw [cellsV, List.getElem?_eq_getElem (by omega)] at h1
        obtain ⟨cs', hc, ht⟩ := Option.bind_eq_some_iff.1 h1
        obtain ⟨d0, d1, d2, d3, d4, v, rfl, hv⟩ := ih cs' _ ht
        exact ⟨v, d0, d1, d2, d3, d4, (World.cells?_some hc).2.2, hv⟩
      obtain ⟨l, hll, hls⟩ := list_of len hq
      subst hll
      refine ⟨l, some a, cap, rfl, hl, hm, by simp, ?_⟩
      by_cases he : l = []
      · exact .inl he
      · have hp : 0 < l.length := List.length_pos_iff.2 he
        obtain ⟨b, off, spot⟩ := a
        obtain ⟨d0, d1, d2, d3, d4, hu0, _⟩ := hls 0 hp
        have hu := hu0 0 (by omega)
        simp [Addr.add] at hu
        have hspot : spot = none := by simpa using World.cell?_spot hu
        subst hspot
        refine .inr ⟨b, off, rfl, World.block_lt_of_cell? w _ hu, fun i hi => ?_⟩
        obtain ⟨d0, d1, d2, d3, d4, hu, hv⟩ := hls i hi
        have e : ∀ j, j < 5 → w.cell? ⟨b, off + i * 5 + j, none⟩ = [d0, d1, d2, d3, d4][j]? := by
          intro j hj
          have := hu j hj
          rw [Addr.add_lit, Addr.add_lit] at this
          exact this
        exact ⟨(d0, d1, d2, d3, d4), ⟨e 0 (by omega), e 1 (by omega), e 2 (by omega), e 3 (by omega), e 4 (by omega)⟩, hv⟩
  obtain ⟨l, hL⟩ := hL
  exact ⟨_, _, _, _, _, (n0, n1, xs, ks, l), rfl, (VSeg_succ _ _ _ _ _).2 ⟨rfl, rfl, hT, hK, hL⟩⟩

theorem read_both (f : Nat) : ReadAt enc w f ∧ ReadAt enc w (f + 1) := by
  induction f with
  | zero =>
    refine ⟨fun cs x h => by simp [DataW.trod] at h, fun cs x h => ?_⟩
    obtain ⟨_, _, _, _, _, _, _, _, _, _, _, h0, _⟩ := read_five h
    simp [DataW.trod] at h0
  | succ f ih => exact ⟨ih.2, read_step f ih.1⟩

/-- A value that came in. -/
theorem read_value {v : Value} {d : DataW H} {ps : List MemPlace} (h : DataW.Trod enc Tryz.prog w 0 (fun _ => true) true 27 v d ps) :
    ∃ c0 c1 c2 c3 c4 n, v = .agg #[c0, c1, c2, c3, c4] ∧ ∃ x : Vl n, VSeg (fun b => b < w.heap.size) w n (c0, c1, c2, c3, c4) x := by
  obtain ⟨fuel, hf⟩ := h
  obtain ⟨c0, c1, c2, c3, c4, x, e, hx⟩ := (read_both fuel).1 _ _ hf
  refine ⟨c0, c1, c2, c3, c4, dep fuel, ?_, x, hx⟩
  cases v <;> simp [Value.cells] at e
  rename_i cs
  cases cs
  simp at e
  simp [e]
end Go.Proofs.YtdhlmcgbgdljmaaGreatDoor
/-
  A path that came in, as its reading has it, can be read: 'PthSeg'.
-/
namespace Go.Proofs.YtdhlmcgbgdljmaaGreatDoor
open Go.ChangeShapes Go.WideShapes Go.ChangeAt Go.RowKit
set_option linter.unusedVariables false
set_option linter.unusedSimpArgs false
set_option maxRecDepth 100000

theorem cellsS : Tryz.prog.cellsOf 65 = 3 := by kernel_rfl
variable {H : Type} {enc : TypeId × Value → H} {w : World}

theorem read_step3 {fuel : Nat} {cs : List Value} {x : DataW H × List MemPlace} (h : DataW.trod enc Tryz.prog w 0 (fun _ => true) true fuel 65 cs = some x) :
    ∃ c0 c1 c2, ∃ s : Stp, cs = [c0, c1, c2] ∧ StSeg (fun b => b < w.heap.size) w (c0, c1, c2) s := by
  cases fuel with
  | zero => simp [DataW.trod] at h
  | succ fuel =>
    unfold DataW.trod at h
    rw [Tryz.underlying65] at h
    simp only [cellsS] at h
    split at h
    · next hlen =>
      match cs, hlen with
      | [c0, c1, c2], _ =>
        simp [cellsT, cellsI, List.mapM_cons, Option.bind_eq_some_iff] at h
        obtain ⟨a0, b0, h0, _, ⟨a1, b1, h1, _, ⟨a2, b2, h2, _⟩, _⟩, _⟩ := h
        obtain ⟨n0, e0, _, _⟩ := DataW.trod_int Tryz.underlying3 h0
        obtain ⟨u1, xs, e1, hT⟩ := read_text h1
        obtain ⟨n2, e2, _, _⟩ := DataW.trod_int Tryz.underlying3 h2
        simp at e0 e1 e2
        subst e0 e1 e2
        exact ⟨_, _, _, (n0, xs, n2), rfl, rfl, hT, rfl⟩
    · simp at h

/-- A path that came in. -/
theorem read_path {fuel : Nat} {cs : List Value} {x : DataW H × List MemPlace} (h : DataW.trod enc Tryz.prog w 0 (fun _ => true) true fuel 22 cs = some x) : ∃ u l, cs = [u] ∧ PthSeg (fun b => b < w.heap.size) w u l := by
  rcases DataW.trod_slice Tryz.underlying22 h with ⟨rfl, _⟩ | ⟨a, len, cap, elems, rest, n, _, rfl, _, hb, hl, hm, hlen, hel, hsp, hns⟩
  · exact ⟨_, [], rfl, none, 0, rfl, Nat.le_refl _, Nat.zero_le _, fun _ => rfl, .inl rfl⟩
  · have hq : ∀ i, i < len → ∃ s : Stp, ∃ c0 c1 c2, (∀ j, j < 3 → w.cell? ((a.add (i * 3)).add j) = [c0, c1, c2][j]?) ∧ StSeg (fun b => b < w.heap.size) w (c0, c1, c2) s := by
      intro i hi
      have h1 := hel i hi
      rw [cellsS, List.getElem?_eq_getElem (by omega)] at h1
      obtain ⟨cs', hc, ht⟩ := Option.bind_eq_some_iff.1 h1
      obtain ⟨d0, d1, d2, s, rfl, hv⟩ := read_step3 ht
      exact ⟨s, d0, d1, d2, (World.cells?_some hc).2.2, hv⟩
    obtain ⟨l, hll, hls⟩ := list_of len hq
    subst hll
    refine ⟨_, l, rfl, some a, cap, rfl, hl, hm, by simp, ?_⟩
    by_cases he : l = []
    · exact .inl he
    · have hp : 0 < l.length := List.length_pos_iff.2 he
      obtain ⟨b, off, spot⟩ := a
      obtain ⟨d0, d1, d2, hu0, _⟩ := hls 0 hp
      have hu := hu0 0 (by omega)
      simp [Addr.add] at hu
      have hspot : spot = none := by simpa using World.cell?_spot hu
      subst hspot
      refine .inr ⟨b, off, rfl, World.block_lt_of_cell? w _ hu, fun i hi => ?_⟩
      obtain ⟨d0, d1, d2, hu, hv⟩ := hls i hi
      have e : ∀ j, j < 3 → w.cell? ⟨b, off + i * 3 + j, none⟩ = [d0, d1, d2][j]? := by
        intro j hj
        have := hu j hj
        rw [Addr.add_lit, Addr.add_lit] at this
        exact this
      exact ⟨(d0, d1, d2), ⟨e 0 (by omega), e 1 (by omega), e 2 (by omega)⟩, hv⟩

/-- As an argument. -/
theorem read_path_arg {a : Option Addr} {n c : Nat} {d : DataW H} {ps : List MemPlace} (h : DataW.Trod enc Tryz.prog w 0 (fun _ => true) true 22 (.slice a n c) d ps) : ∃ l, PthSeg (fun b => b < w.heap.size) w (.slice a n c) l := by
  obtain ⟨fuel, hf⟩ := h
  obtain ⟨u, l, e, hl⟩ := read_path hf
  simp [Value.cells] at e
  subst e
  exact ⟨l, hl⟩
end Go.Proofs.YtdhlmcgbgdljmaaGreatDoor
/-
  What reads as a value of a depth reads as one of any greater; no statement is proved here.
-/
namespace Go.Proofs.YtdhlmcgbgdljmaaGreatDoor
open Go.RowKit
set_option linter.unusedVariables false
set_option linter.unusedSimpArgs false

/-- What reads at a depth reads at one more. -/
theorem VSeg.up {R : Nat → Prop} {w : World} : ∀ (d : Nat) (c : Value × Value × Value × Value × Value) (v : Vl d), VSeg R w d c v → ∃ v' : Vl (d + 1), VSeg R w (d + 1) c v'
  | 0, c, v, h => h.elim
  | d + 1, c, v, h => by
    obtain ⟨h0, h1, hT, hK, a, cap, e, hc, hm, hn, hL⟩ := h
    rcases hL with hL | ⟨b, off, ha, hb, hL⟩
    · refine ⟨(v.1, v.2.1, v.2.2.1, v.2.2.2.1, []), h0, h1, hT, hK, a, cap, ?_, Nat.zero_le _, hm, hn, Or.inl rfl⟩
      rw [e, hL]
      rfl
    · have hall : ∀ i (hi : i < v.2.2.2.2.length), ∃ v' : Vl (d + 1), ∃ e, Five w b (off + i * 5) e ∧ VSeg R w (d + 1) e v' := fun i hi => by
        obtain ⟨e, h5, hv⟩ := hL i hi
        obtain ⟨v', hv'⟩ := VSeg.up d e _ hv
        exact ⟨v', e, h5, hv'⟩
      have hlist : ∀ n, n ≤ v.2.2.2.2.length → ∃ l : List (Vl (d + 1)), l.length = n ∧ ∀ i (hi : i < l.length), ∃ e, Five w b (off + i * 5) e ∧ VSeg R w (d + 1) e l[i] := by
        intro n
        induction n with
        | zero => exact fun _ => ⟨[], rfl, fun i hi => absurd hi (by simp)⟩
        | succ n ih =>
          intro hn'
          obtain ⟨l, hl, hl2⟩ := ih (by omega)
          obtain ⟨v', e, h5, hv⟩ := hall n (by omega)
          refine ⟨l ++ [v'], by simp [hl], fun i hi => ?_⟩
          by_cases hin : i < l.length
          · rw [List.getElem_append_left hin]
            exact hl2 i hin
          · have hi' : i = l.length := by simp at hi; omega
            subst hi'
            rw [List.getElem_append_right (Nat.le_refl _)]
            simp only [Nat.sub_self, List.getElem_cons_zero]
            rw [hl]
            exact ⟨e, h5, hv⟩
      obtain ⟨l, hl, hl2⟩ := hlist _ (Nat.le_refl _)
      refine ⟨(v.1, v.2.1, v.2.2.1, v.2.2.2.1, l), h0, h1, hT, hK, a, cap, ?_, ?_, hm, hn, Or.inr ⟨b, off, ha, hb, hl2⟩⟩
      · show c.2.2.2.2 = .slice a l.length cap
        rw [hl]
        exact e
      · show l.length ≤ cap
        rw [hl]
        exact hc

theorem VSeg.deeper {R : Nat → Prop} {w : World} {d : Nat} {c : Value × Value × Value × Value × Value} {v : Vl d} (h : VSeg R w d c v) : ∀ k, ∃ v' : Vl (d + k), VSeg R w (d + k) c v'
  | 0 => ⟨v, h⟩
  | k + 1 => by
    obtain ⟨v', h'⟩ := VSeg.deeper h k
    exact VSeg.up (d + k) c v' h'

theorem VSeg.at_least {R : Nat → Prop} {w : World} {d D : Nat} {c : Value × Value × Value × Value × Value} {v : Vl d} (h : VSeg R w d c v) (hD : d ≤ D) : ∃ v' : Vl D, VSeg R w D c v' := by
  obtain ⟨k, rfl⟩ : ∃ k, D = d + k := ⟨D - d, by omega⟩
  exact h.deeper k
end Go.Proofs.YtdhlmcgbgdljmaaGreatDoor
/-
  Changes that came in, as their reading has them, can be read: 'CSg', 'CLSg'.
-/
namespace Go.Proofs.YtdhlmcgbgdljmaaGreatDoor
open Go.ChangeShapes Go.WideShapes Go.ChangeAt Go.RowKit
set_option linter.unusedVariables false
set_option linter.unusedSimpArgs false
set_option maxRecDepth 100000

theorem cellsCh : Tryz.prog.cellsOf 29 = 13 := by kernel_rfl
theorem cellsPt : Tryz.prog.cellsOf 22 = 1 := by kernel_rfl
theorem cellsBo : Tryz.prog.cellsOf 4 = 1 := by kernel_rfl
variable {H : Type} {enc : TypeId × Value → H} {w : World}

/-- A change that came in. -/
theorem read_change {f : Nat} {cs : List Value} {x : DataW H × List MemPlace} (h : DataW.trod enc Tryz.prog w 0 (fun _ => true) true (f + 1) 29 cs = some x) :
    ∃ it : Chg (dep f), CSg (fun b => b < w.heap.size) w (dep f) cs it := by
  unfold DataW.trod at h
  rw [Tryz.underlying29] at h
  simp only [cellsCh] at h
  split at h
  · next hlen =>
    match cs, hlen with
    | [c0, c1, c2, c3, c4, c5, c6, c7, c8, c9, c10, c11, c12], _ =>
      simp [cellsPt, cellsBo, cellsV, List.mapM_cons, Option.bind_eq_some_iff] at h
      obtain ⟨a0, b0, h0, _, ⟨a1, b1, h1, _, ⟨a2, b2, h2, _, ⟨a3, b3, h3, _, ⟨a4, b4, h4, _⟩, _⟩, _⟩, _⟩, _⟩ := h
      obtain ⟨u0, p, e0, hP⟩ := read_path h0
      obtain ⟨n1, e1, _⟩ := DataW.trod_bool Tryz.underlying4 h1
      obtain ⟨p0, p1, p2, p3, p4, v2, e2, hV⟩ := (read_both f).1 _ _ h2
      obtain ⟨n3, e3, _⟩ := DataW.trod_bool Tryz.underlying4 h3
      obtain ⟨q0, q1, q2, q3, q4, v4, e4, hU⟩ := (read_both f).1 _ _ h4
      simp only [List.cons.injEq, and_true] at e0 e1 e2 e3 e4
      obtain ⟨rfl, rfl, rfl, rfl, rfl⟩ := e2
      obtain ⟨rfl, rfl, rfl, rfl, rfl⟩ := e4
      subst e0 e1 e3
      exact ⟨(p, n1, v2, n3, v4), _, _, _, _, _, _, _, _, _, _, _, rfl, hP, hV, hU⟩
  · simp at h

end Go.Proofs.YtdhlmcgbgdljmaaGreatDoor
/-
  A change as an argument.
-/
namespace Go.Proofs.YtdhlmcgbgdljmaaGreatDoor
open Go.ChangeShapes Go.WideShapes Go.ChangeAt Go.RowKit
set_option linter.unusedVariables false

variable {H : Type} {enc : TypeId × Value → H} {w : World}
theorem agg_ofC {v : Value} {l : List Value} (e : v.cells.toList = l) (h : l.length ≠ 1) : v = .agg l.toArray := by
  cases v <;> simp [Value.cells] at e <;> first | (subst e; simp at h; done) | (subst e; simp)
theorem read_change_arg {v : Value} {dd : DataW H} {ps : List MemPlace} (h : DataW.Trod enc Tryz.prog w 0 (fun _ => true) true 29 v dd ps) : ∃ X d, ∃ it : Chg d, v = .agg X ∧ CSg (fun b => b < w.heap.size) w d X.toList it := by
  obtain ⟨fuel, hf⟩ := h
  cases fuel with
  | zero => simp [DataW.trod] at hf
  | succ f =>
    obtain ⟨it, hs⟩ := read_change hf
    have hl := hs.len
    generalize hcs : v.cells.toList = cs at hs hl
    exact ⟨cs.toArray, dep f, it, agg_ofC hcs (by omega), hs⟩
end Go.Proofs.YtdhlmcgbgdljmaaGreatDoor
