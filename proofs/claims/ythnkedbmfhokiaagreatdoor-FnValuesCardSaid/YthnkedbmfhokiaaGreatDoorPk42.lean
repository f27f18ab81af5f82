/-
  Texts that a law leans on, one behind the other; no statement is proved here.
-/
import Derived.Test.YthnkedbmfhokiaaGreatDoorPk31
import Derived.Test.YthnkedbmfhokiaaGreatDoorPk18
/-
  ValText of the program: appendPart of parts without parts, of lists.
-/
namespace Go.Proofs.YthnkedbmfhokiaaGreatDoor
open Go.RowKit Go.Shelf
set_option linter.unusedVariables false
set_option linter.unusedSimpArgs false

/-- The contract of appendPart at depth d. -/
def PSayAt (d : Nat) : Prop := ∀ (N B : Nat) (a : Option Addr) (c : Nat) (xs : List Int) (p : Value) (v : Vl d) (deep : Nat) (w : World), PSeg (fun b => b < N) w d p v → N ≤ B → B ≤ w.heap.size → Bts w B (.slice a xs.length c) xs → goodB d v deep = true → partsV d v ≤ 40 → xs.length + 60 * partsV d v ≤ 900000 → Tab B w →
  Calls Tryz.prog 20 #[.slice a xs.length c, p] w (ApEnd B (xs ++ sayV d v) w)

set_option maxHeartbeats 1600000 in
set_option maxRecDepth 100000 in
theorem appendPart_null (B : Nat) (a : Option Addr) (c : Nat) (xs : List Int) (w : World) (hB : Bts w B (.slice a xs.length c) xs) (hBw : B ≤ w.heap.size) (hl : xs.length ≤ 900000) :
    Calls Tryz.prog 20 #[.slice a xs.length c, .iface 84 (.agg #[])] w (ApEnd B (xs ++ [110, 117, 108, 108]) w) := by
  have t1 := is_nullPart (.agg #[])
  have HB : Hid (∀ o : Obj, Bts (w.alloc o) B (.slice a xs.length c) xs) := fun o => hB.alloc o
  have hbA : Hid (∀ o : Obj, Below B w (w.alloc o)) := fun o => (Below.refl _ _).alloc hBw o
  have hbB : Hid (∀ o : Obj, B ≤ (w.alloc o).heap.size) := fun o => by have := (hbA.out o).size; omega
  have HOwn := hide' hB.own
  clear hB
  go_enter Tryz.func20, Tryz.ntmps20
  go_wp2_with (at_builtin; refine wpList_append_text rfl _ (.const (.string { data := #[110, 117, 108, 108] })) 9 (by rfl) Tryz.underlying9 B (.slice a xs.length c) xs [110, 117, 108, 108] (by rfl) (HB.out _) _ (by rfl) (by simp [Byt]) (by rfl) (by (try simp); omega) (hbB.out _) ?_; intro v1 w1 hv1 hg1; have hb1 := hide' ((hbA.out _).grown hg1 (hbB.out _) HOwn.out); have hk1 := hide' (kept_app (Kept.refl w) (HB.out _) hg1); replace hv1 := hide' hv1; clear hg1)
  go_ret
  exact apEnd_of hv1.out hb1.out hk1.out

set_option maxHeartbeats 1600000 in
set_option maxRecDepth 100000 in
theorem appendPart_false (B : Nat) (a : Option Addr) (c : Nat) (xs : List Int) (w : World) (hB : Bts w B (.slice a xs.length c) xs) (hBw : B ≤ w.heap.size) (hl : xs.length ≤ 900000) :
    Calls Tryz.prog 20 #[.slice a xs.length c, .iface 67 (.agg #[.int .i64 0])] w (ApEnd B (xs ++ [102, 97, 108, 115, 101]) w) := by
  have t1 := nonull_boolPart (.agg #[.int .i64 0])
  have t2 := is_boolPart (.agg #[.int .i64 0])
  have HB : Hid (∀ o : Obj, Bts (w.alloc o) B (.slice a xs.length c) xs) := fun o => hB.alloc o
  have hbA : Hid (∀ o : Obj, Below B w (w.alloc o)) := fun o => (Below.refl _ _).alloc hBw o
  have hbB : Hid (∀ o : Obj, B ≤ (w.alloc o).heap.size) := fun o => by have := (hbA.out o).size; omega
  have HOwn := hide' hB.own
  have HC : Hid (∀ o : Obj, Calls Tryz.prog 40 #[.slice a xs.length c, .bool false] (w.alloc o) (ApEnd B (xs ++ [102, 97, 108, 115, 101]) (w.alloc o))) := fun o => AppendBool_any B false a c xs (w.alloc o) (HB.out o) (hbB.out o) (by omega)
  obtain ⟨ys, hys⟩ : ∃ ys, ys = xs ++ [102, 97, 108, 115, 101] := ⟨_, rfl⟩
  rw [← hys] at HC
  rw [← hys]
  clear hB hys
  go_enter Tryz.func20, Tryz.ntmps20
  go_wp2_with fail
  refine (HC.out _).mono ?_
  rintro e w1 ⟨a1, c1, rfl, hv1, hb1, hk1⟩
  have Hv := hide' hv1
  have Hk := hide' ((kept_alloc _ _).trans hk1)
  have Hb := hide' ((hbA.out _).trans hb1)
  clear hv1 hb1 HC hk1
  generalize ys.length = m at *
  go_wp2
  go_ret
  exact apEnd_of Hv.out Hb.out Hk.out

set_option maxHeartbeats 1600000 in
set_option maxRecDepth 100000 in
theorem appendPart_true (B : Nat) (a : Option Addr) (c : Nat) (xs : List Int) (w : World) (hB : Bts w B (.slice a xs.length c) xs) (hBw : B ≤ w.heap.size) (hl : xs.length ≤ 900000) :
    Calls Tryz.prog 20 #[.slice a xs.length c, .iface 67 (.agg #[.int .i64 1])] w (ApEnd B (xs ++ [116, 114, 117, 101]) w) := by
  have t1 := nonull_boolPart (.agg #[.int .i64 1])
  have t2 := is_boolPart (.agg #[.int .i64 1])
  have HB : Hid (∀ o : Obj, Bts (w.alloc o) B (.slice a xs.length c) xs) := fun o => hB.alloc o
  have hbA : Hid (∀ o : Obj, Below B w (w.alloc o)) := fun o => (Below.refl _ _).alloc hBw o
  have hbB : Hid (∀ o : Obj, B ≤ (w.alloc o).heap.size) := fun o => by have := (hbA.out o).size; omega
  have HOwn := hide' hB.own
  have HC : Hid (∀ o : Obj, Calls Tryz.prog 40 #[.slice a xs.length c, .bool true] (w.alloc o) (ApEnd B (xs ++ [116, 114, 117, 101]) (w.alloc o))) := fun o => AppendBool_any B true a c xs (w.alloc o) (HB.out o) (hbB.out o) (by omega)
  obtain ⟨ys, hys⟩ : ∃ ys, ys = xs ++ [116, 114, 117, 101] := ⟨_, rfl⟩
  rw [← hys] at HC
  rw [← hys]
  clear hB hys
  go_enter Tryz.func20, Tryz.ntmps20
  go_wp2_with fail
  refine (HC.out _).mono ?_
  rintro e w1 ⟨a1, c1, rfl, hv1, hb1, hk1⟩
  have Hv := hide' hv1
  have Hk := hide' ((kept_alloc _ _).trans hk1)
  have Hb := hide' ((hbA.out _).trans hb1)
  clear hv1 hb1 HC hk1
  generalize ys.length = m at *
  go_wp2
  go_ret
  exact apEnd_of Hv.out Hb.out Hk.out

set_option maxHeartbeats 1600000 in
set_option maxRecDepth 100000 in
theorem appendPart_int (vn : Int) (B : Nat) (a : Option Addr) (c : Nat) (xs : List Int) (w : World) (hB : Bts w B (.slice a xs.length c) xs) (hBw : B ≤ w.heap.size) (hl : xs.length ≤ 900000) (h0 : -1000000000000 ≤ vn) (h1 : vn ≤ 1000000000000) (ht : Tab B w) :
    Calls Tryz.prog 20 #[.slice a xs.length c, .iface 68 (.agg #[.int .i64 vn])] w (ApEnd B (xs ++ intT vn) w) := by
  have t1 := nonull_intPart (.agg #[.int .i64 vn])
  have t2 := nobool_intPart (.agg #[.int .i64 vn])
  have t3 := is_intPart (.agg #[.int .i64 vn])
  have HB : Hid (∀ o : Obj, Bts (w.alloc o) B (.slice a xs.length c) xs) := fun o => hB.alloc o
  have hbA : Hid (∀ o : Obj, Below B w (w.alloc o)) := fun o => (Below.refl _ _).alloc hBw o
  have hbB : Hid (∀ o : Obj, B ≤ (w.alloc o).heap.size) := fun o => by have := (hbA.out o).size; omega
  have HOwn := hide' hB.own
  have HC : Hid (∀ o : Obj, Calls Tryz.prog 41 #[.slice a xs.length c, .int .i64 vn, .int .i64 10] (w.alloc o) (ApEnd B (xs ++ intT vn) (w.alloc o))) := fun o => AppendInt_any B vn (.slice a xs.length c) xs (w.alloc o) h0 h1 (HB.out o) (hbB.out o) (by omega) (Lib.TabBelow.on ht (hbA.out o))
  clear ht
  obtain ⟨ys, hys⟩ : ∃ ys, ys = xs ++ intT vn := ⟨_, rfl⟩
  rw [← hys] at HC
  rw [← hys]
  clear hB hys
  go_enter Tryz.func20, Tryz.ntmps20
  go_wp2_with fail
  refine (HC.out _).mono ?_
  rintro e w1 ⟨a1, c1, rfl, hv1, hb1, hk1⟩
  have Hv := hide' hv1
  have Hk := hide' ((kept_alloc _ _).trans hk1)
  have Hb := hide' ((hbA.out _).trans hb1)
  clear hv1 hb1 HC hk1
  generalize ys.length = m at *
  go_wp2
  go_ret
  exact apEnd_of Hv.out Hb.out Hk.out

set_option maxHeartbeats 1600000 in
set_option maxRecDepth 100000 in
theorem appendPart_text (sx : ByteArray) (ts : List Int) (B : Nat) (a : Option Addr) (c : Nat) (xs : List Int) (w : World) (hB : Bts w B (.slice a xs.length c) xs) (hBw : B ≤ w.heap.size) (hl : xs.length ≤ 900000) (hsx : sx = strOf ts) (hts : ∀ x ∈ ts, Byt x) (hlt : ts.length ≤ 1000) :
    Calls Tryz.prog 20 #[.slice a xs.length c, .iface 70 (.agg #[.string sx])] w (ApEnd B (xs ++ quoT ts) w) := by
  have t1 := nonull_textPart (.agg #[.string sx])
  have t2 := nobool_textPart (.agg #[.string sx])
  have t3 := noint_textPart (.agg #[.string sx])
  have t4 := is_textPart (.agg #[.string sx])
  have HB : Hid (∀ o : Obj, Bts (w.alloc o) B (.slice a xs.length c) xs) := fun o => hB.alloc o
  have hbA : Hid (∀ o : Obj, Below B w (w.alloc o)) := fun o => (Below.refl _ _).alloc hBw o
  have hbB : Hid (∀ o : Obj, B ≤ (w.alloc o).heap.size) := fun o => by have := (hbA.out o).size; omega
  have HOwn := hide' hB.own
  have HC : Hid (∀ o : Obj, Calls Tryz.prog 42 #[.slice a xs.length c, .string sx] (w.alloc o) (ApEnd B (xs ++ quoT ts) (w.alloc o))) := fun o => by rw [hsx]; exact appendQuoted_any B a c xs ts (w.alloc o) (HB.out o) (hbB.out o) (by omega) hts hlt
  clear hsx hts
  obtain ⟨ys, hys⟩ : ∃ ys, ys = xs ++ quoT ts := ⟨_, rfl⟩
  rw [← hys] at HC
  rw [← hys]
  clear hB hys
  go_enter Tryz.func20, Tryz.ntmps20
  go_wp2_with fail
  refine (HC.out _).mono ?_
  rintro e w1 ⟨a1, c1, rfl, hv1, hb1, hk1⟩
  have Hv := hide' hv1
  have Hk := hide' ((kept_alloc _ _).trans hk1)
  have Hb := hide' ((hbA.out _).trans hb1)
  clear hv1 hb1 HC hk1
  generalize ys.length = m at *
  go_wp2
  go_ret
  exact apEnd_of Hv.out Hb.out Hk.out

set_option maxHeartbeats 1600000 in
set_option maxRecDepth 100000 in
theorem appendPart_unknown (B : Nat) (a : Option Addr) (c : Nat) (xs : List Int) (w : World) (hB : Bts w B (.slice a xs.length c) xs) (hBw : B ≤ w.heap.size) (hl : xs.length ≤ 900000) :
    Calls Tryz.prog 20 #[.slice a xs.length c, .iface 88 (.agg #[])] w (ApEnd B (xs ++ [63]) w) := by
  have t1 := nonull_unknownPart (.agg #[])
  have t2 := nobool_unknownPart (.agg #[])
  have t3 := noint_unknownPart (.agg #[])
  have t4 := notext_unknownPart (.agg #[])
  have t5 := nolist_unknownPart (.agg #[])
  have t6 := nomap_unknownPart (.agg #[])
  have t7 := is_unknownPart (.agg #[])
  have HB : Hid (∀ o : Obj, Bts (w.alloc o) B (.slice a xs.length c) xs) := fun o => hB.alloc o
  have hbA : Hid (∀ o : Obj, Below B w (w.alloc o)) := fun o => (Below.refl _ _).alloc hBw o
  have hbB : Hid (∀ o : Obj, B ≤ (w.alloc o).heap.size) := fun o => by have := (hbA.out o).size; omega
  have HOwn := hide' hB.own
  have hS1 : Hid (∀ o : Obj, Seg ((w.alloc o).alloc (.cells #[.int .u8 63] 5)) (some ⟨w.heap.size + 1, 0, none⟩) [63]) := fun o => by
    have h := seg_one (w.alloc o) 63 (by unfold Byt; omega)
    simp only [World.size_alloc] at h
    exact h
  have hA1 : Hid (∀ o o' : Obj, Bts ((w.alloc o).alloc o') B (.slice a xs.length c) xs) := fun o o' => (hB.alloc o).alloc o'
  have hbC : Hid (∀ o o' : Obj, Below B w ((w.alloc o).alloc o')) := fun o o' => (hbA.out o).alloc (hbB.out o) o'
  clear hB
  go_enter Tryz.func20, Tryz.ntmps20
  go_wp2_with (at_builtin; refine wpList_append_seg rfl _ _ (by rfl) B (.slice a xs.length c) xs [63] (by rfl) (hA1.out _ _) _ 1 1 rfl (by rfl) (hS1.out _) (by simp) (by simp; omega) (by simp; omega) ?_; intro v1 w1 hv1 hg1; have hb1 := hide' ((hbC.out _ _).grown hg1 (by simp; omega) HOwn.out); have hk1 := hide' (kept_app2 (Kept.refl w) (hA1.out _ _) hg1); replace hv1 := hide' hv1; clear hg1)
  go_ret
  exact apEnd_of hv1.out hb1.out hk1.out
end Go.Proofs.YthnkedbmfhokiaaGreatDoor
