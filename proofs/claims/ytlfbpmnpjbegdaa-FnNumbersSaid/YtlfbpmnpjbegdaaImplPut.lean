/-
  joined, PutNum and NumLen of the program, NumLen of the specification.
-/
import Derived.Test.YtlfbpmnpjbegdaaImplDig
import Derived.Test.YtlfbpmnpjbegdaaSpecPut
namespace Go.Proofs.Ytlfbpmnpjbegdaa
open Go.RowKit
set_option linter.unusedVariables false

theorem bts_made {w1 : World} {base g cap : Nat} (h : w1.ownsRow base 5 1 (.slice (some ⟨g, 0, none⟩) 0 cap) 0 []) : Bts w1 base (.slice (some ⟨g, 0, none⟩) 0 cap) [] := ⟨by simp, by simpa [cellsOf] using h⟩

theorem slice5 (w : World) (b dl : Nat) (h : dl ≤ 5) : (Instr.sliceAt 45 (.pointer (some ⟨b, 0, none⟩)) none (some (.int .i64 dl)) none).run Try.prog w = .ok (.slice (some ⟨b, 0, none⟩) dl 5) w := by
  rcases (show dl = 0 ∨ dl = 1 ∨ dl = 2 ∨ dl = 3 ∨ dl = 4 ∨ dl = 5 from by omega) with rfl | rfl | rfl | rfl | rfl | rfl <;> kernel_rfl

set_option maxHeartbeats 800000 in
theorem joined_any (a b : Option Addr) (c1 c2 : Nat) (xs ys : List Int) (w : World) (ha : Seg w a xs) (hb : Seg w b ys) (ka : a = none → c1 = 0) (kb : b = none → c2 = 0) (hl1 : xs.length ≤ 4194304) (hl2 : ys.length ≤ 4194304) :
    Calls Try.prog 41 #[.slice a xs.length c1, .slice b ys.length c2] w fun e w' => ∃ v, e = .returned v ∧ Bts w' w.heap.size v (xs ++ ys) ∧ Below w.heap.size w w' := by
  obtain ⟨i0, hi, hz0, hz1, hz2⟩ := info_parts info5
  generalize hn1 : xs.length = n1
  generalize hn2 : ys.length = n2
  have Hn1 : Hid (n1 = xs.length) := hn1.symm
  have Hn2 : Hid (n2 = ys.length) := hn2.symm
  have hm1 : n1 ≤ 4194304 := by omega
  have hm2 : n2 ≤ 4194304 := by omega
  clear hn1 hn2
  go_enter Try.func41, Try.ntmps41
  go_wp2_with (first | (refine wpList_make_own _ rfl _ _ 22 rfl w.heap.size 5 i0 (.int .u8 0) 1 Try.underlying22 hi hz0 hz1 .i64 .i64 _ (n1 + n2) rfl rfl (by omega) (by rw [hz2]; omega) (by unfold maxLen; omega) (Nat.le_refl _) ?_; intro w1 hown hgrow; have hE := bts_made hown; have hB1 : Below w.heap.size w w1 := (Below.refl _ _).grown hgrow (Nat.le_refl _) (by simp); have hS1 := ha.grow hB1; have hz1 : w.heap.size ≤ w1.heap.size := hB1.size; clear hown hgrow) | (at_builtin; refine wpList_append_seg rfl (.tmp 12) (.tmp 13) rfl w.heap.size _ [] xs rfl hE a n1 c1 Hn1.out rfl hS1 ka (by simp; omega) hz1 ?_; intro v2 w2 hv2 hg2; have hB2 : Below w.heap.size w w2 := hB1.grown hg2 hz1 hE.own; have hS2 := hb.grow hB2; have hz2 : w.heap.size ≤ w2.heap.size := hB2.size; simp only [List.nil_append] at hv2; clear hg2 hE hS1) | (at_builtin; refine wpList_append_seg rfl (.tmp 15) (.tmp 16) rfl w.heap.size _ xs ys rfl hv2 b n2 c2 Hn2.out rfl hS2 kb (by omega) hz2 ?_; intro v3 w3 hv3 hg3))
  go_ret
  exact ⟨_, rfl, hv3, hB2.grown hg3 hz2 hv2.own⟩

/-- The first bytes of an array of five. -/
theorem seg_arr5 (w : World) (c0 c1 c2 c3 c4 : Int) (ds : List Int) (k : Nat) (h : [c0, c1, c2, c3, c4] = ds ++ List.replicate k 0) (hb : ∀ x ∈ ds, Byt x) :
    Seg (w.alloc (.cells #[.int .u8 c0, .int .u8 c1, .int .u8 c2, .int .u8 c3, .int .u8 c4] 45)) (some ⟨w.heap.size, 0, none⟩) ds := by
  refine ⟨hb, .inr ⟨w.heap.size, 0, rfl, fun i hi => ?_⟩⟩
  have hlen := congrArg List.length h
  simp at hlen
  have h5 : i < 5 := by omega
  have hd : [c0, c1, c2, c3, c4].getD i 0 = ds.getD i 0 := by
    rw [h]
    simp [List.getD_eq_getElem?_getD, List.getElem?_append, hi]
  rw [← hd, Nat.zero_add]
  rcases (show i = 0 ∨ i = 1 ∨ i = 2 ∨ i = 3 ∨ i = 4 from by omega) with rfl | rfl | rfl | rfl | rfl <;> simp

set_option maxHeartbeats 800000 in
theorem impl_PutNum_any (a : Option Addr) (cap : Nat) (xs : List Int) (n : Int) (w : World) (hs : Seg w a xs) (hc : a = none → cap = 0) (hl : xs.length ≤ 2097152) :
    Calls Try.prog 13 #[.slice a xs.length cap, .int .i64 n] w fun e w' => ∃ v, e = .returned v ∧ Bts w' w.heap.size v (putNum xs n) ∧ Below w.heap.size w w' := by
  by_cases h : n < 0 ∨ 2147483647 < n
  · have Hp : Hid (putNum xs n = xs) := putNum_no xs n h
    go_enter Try.func13, Try.ntmps13
    go_wp2_with fail
    refine (numDigits_no n _ h).mono ?_
    rintro e w1 ⟨rfl, b1⟩
    have b2 : Below w.heap.size w (w1.alloc (.cells #[.int .u8 0, .int .u8 0, .int .u8 0, .int .u8 0, .int .u8 0] 45)) := b1.alloc b1.size _
    have hsz := b1.size
    go_wp2_with fail
    refine (joined_any _ _ _ _ xs [] _ (hs.grow b2) ⟨by simp, .inl rfl⟩ hc (by simp) (by omega) (by simp)).mono ?_
    rintro e w3 ⟨v, rfl, hv, b3⟩
    simp only [List.append_nil] at hv
    go_wp2
    go_ret
    exact ⟨_, rfl, by rw [Hp.out]; exact hv.mono (by simp; omega), Below.on b2 b3⟩
  · obtain ⟨m, rfl⟩ := Int.eq_ofNat_of_zero_le (show 0 ≤ n by omega)
    have hm : m ≤ 2147483647 := by omega
    have hp : putNum xs m = xs ++ digs m := by
      have := putNum_yes xs m (by omega) (by omega)
      simpa using this
    have Hp : Hid (putNum xs m = xs ++ digs m) := hp
    clear hp
    clear h
    go_enter Try.func13, Try.ntmps13
    go_wp2_with fail
    refine (numDigits_yes m _ hm).mono ?_
    rintro e w1 ⟨c0, c1, c2, c3, c4, rfl, hcs, b1⟩
    have hlen := digs_len m hm
    have b2 : Below w.heap.size w (w1.alloc (.cells #[.int .u8 c0, .int .u8 c1, .int .u8 c2, .int .u8 c3, .int .u8 c4] 45)) := b1.alloc b1.size _
    have hS := seg_arr5 w1 c0 c1 c2 c3 c4 (digs m) _ hcs (digs_byt m)
    have hsz := b1.size
    clear hcs
    have hJ := fun (wx : World) (ha : Seg wx a xs) (hb : Seg wx (some ⟨w1.heap.size, 0, none⟩) (digs m)) => joined_any a (some ⟨w1.heap.size, 0, none⟩) cap 5 xs (digs m) wx ha hb hc (by simp) (by omega) (by omega)
    have HJ : Hid (∀ (wx : World) (ha : Seg wx a xs) (hb : Seg wx (some ⟨w1.heap.size, 0, none⟩) (digs m)), Calls Try.prog 41 #[.slice a xs.length cap, .slice (some ⟨w1.heap.size, 0, none⟩) (digs m).length 5] wx fun e w' => ∃ v, e = .returned v ∧ Bts w' wx.heap.size v (xs ++ digs m) ∧ Below wx.heap.size wx w') := hJ
    clear hJ
    generalize (digs m).length = dl at *
    have hsl := fun wx => slice5 wx w1.heap.size dl hlen
    go_wp2_with fail
    refine (HJ.out _ (hs.grow b2) hS).mono ?_
    rintro e w3 ⟨v, rfl, hv, b3⟩
    go_wp2
    go_ret
    exact ⟨_, rfl, by rw [Hp.out]; exact hv.mono (by simp; omega), Below.on b2 b3⟩

end Go.Proofs.Ytlfbpmnpjbegdaa
