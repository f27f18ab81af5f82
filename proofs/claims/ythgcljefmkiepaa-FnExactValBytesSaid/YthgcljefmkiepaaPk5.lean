/-
  Texts that a law leans on, one behind the other; no statement is proved here.
-/
import Derived.Test.YthgcljefmkiepaaPk4
import Derived.Test.YthgcljefmkiepaaPk3
/-
  The specification's PutNum: it makes a row of its own that holds its argument's bytes and those of the number behind them.
-/
namespace Go.Proofs.Ythgcljefmkiepaa
open Go.RowKit
set_option linter.unusedVariables false

set_option maxHeartbeats 800000 in
theorem spec_PutNum_no (a : Option Addr) (cap : Nat) (xs : List Int) (n : Int) (w : World) (hs : Seg w a xs) (hc : a = none → cap = 0) (hl : xs.length ≤ 2097152) (hn : n < 0 ∨ 2147483647 < n) :
    Calls Try.prog 28 #[.slice a xs.length cap, .int .i64 n] w fun e w' => ∃ v, e = .returned v ∧ Bts w' w.heap.size v (putNum xs n) ∧ Below w.heap.size w w' := by
  have hE := bts_empty w
  have hS1 : Seg (w.alloc (.cells #[] 5)) a xs := hs.grow ((Below.refl _ _).alloc (Nat.le_refl _) _)
  have hB1 : Below w.heap.size w (w.alloc (.cells #[] 5)) := (Below.refl _ _).alloc (Nat.le_refl _) _
  have Hp : Hid (putNum xs n = xs) := putNum_no xs n hn
  generalize hnn : xs.length = nn
  have Hnn : Hid (nn = xs.length) := hnn.symm
  clear hnn
  rcases hn with hn | hn
  · go_enter Try.func28, Try.ntmps28
    go_wp2_with (at_builtin; refine wpList_append_seg rfl _ _ rfl w.heap.size _ [] xs rfl hE a nn cap Hnn.out rfl hS1 hc (by simp; omega) (by simp) ?_; intro v2 w2 hv2 hg2)
    go_ret
    exact ⟨_, rfl, by rw [Hp.out]; exact hv2, hB1.grown hg2 (by simp) hE.own⟩
  · have hn0 : ¬ n < 0 := by omega
    go_enter Try.func28, Try.ntmps28
    go_wp2_with (at_builtin; refine wpList_append_seg rfl _ _ rfl w.heap.size _ [] xs rfl hE a nn cap Hnn.out rfl hS1 hc (by simp; omega) (by simp) ?_; intro v2 w2 hv2 hg2)
    go_ret
    exact ⟨_, rfl, by rw [Hp.out]; exact hv2, hB1.grown hg2 (by simp) hE.own⟩

set_option maxHeartbeats 800000 in
theorem spec_PutNum_yes (a : Option Addr) (cap : Nat) (xs : List Int) (n : Int) (w : World) (hs : Seg w a xs) (hc : a = none → cap = 0) (hl : xs.length ≤ 2097152) (hn0 : 0 ≤ n) (hn1 : n ≤ 2147483647) :
    Calls Try.prog 28 #[.slice a xs.length cap, .int .i64 n] w fun e w' => ∃ v, e = .returned v ∧ Bts w' w.heap.size v (putNum xs n) ∧ Below w.heap.size w w' := by
  have hE := bts_empty w
  have hS1 : Seg (w.alloc (.cells #[] 5)) a xs := hs.grow ((Below.refl _ _).alloc (Nat.le_refl _) _)
  have hB1 : Below w.heap.size w (w.alloc (.cells #[] 5)) := (Below.refl _ _).alloc (Nat.le_refl _) _
  have Hp : Hid (putNum xs n = xs ++ digs n.toNat) := putNum_yes xs n hn0 hn1
  generalize hnn : xs.length = nn
  have Hnn : Hid (nn = xs.length) := hnn.symm
  clear hnn
  go_enter Try.func28, Try.ntmps28
  go_wp2_with (at_builtin; refine wpList_append_seg rfl _ _ rfl w.heap.size _ [] xs rfl hE a nn cap Hnn.out rfl hS1 hc (by simp; omega) (by simp) ?_; intro v2 w2 hv2 hg2)
  go_loopw [1, 5] (fun n' v wr => ∃ (m : Nat) (pre : List Int), m ≤ 2147483647 ∧ n' = .int .i64 m ∧ Bts wr w.heap.size v (xs ++ pre) ∧ pre ++ digs m = digs n.toNat ∧ Below w.heap.size w wr) (fun n' _ _ => (intOf n').toNat)
  case atStart => exact ⟨n.toNat, [], by omega, by rw [Int.toNat_of_nonneg hn0], by simpa using hv2, by simp, hB1.grown hg2 (by simp) hE.own⟩
  case round =>
    obtain ⟨m, pre, hm, rfl, hv, hpre, hbel⟩ := hrel
    have Hpre : Hid (pre ++ digs m = digs n.toNat) := hpre
    clear hpre hv2 hg2
    have hsz := hbel.size
    have hpl : pre.length ≤ 5 := by
      have h1 := congrArg List.length Hpre.out
      have h2 := digs_len n.toNat (by omega)
      simp at h1
      omega
    by_cases hbig : (127 : Int) < (m : Int)
    · have hc1 : Byt ((m : Int) % 128 + 128) := by unfold Byt; omega
      have hS2 := seg_one wr _ hc1
      have hv' := hv.alloc (.cells #[.int .u8 ((m : Int) % 128 + 128)] 5)
      have hB2 : Below w.heap.size w (wr.alloc (.cells #[.int .u8 ((m : Int) % 128 + 128)] 5)) := hbel.alloc (by omega) _
      go_wp2_with (at_builtin; refine wpList_append_seg rfl _ _ rfl w.heap.size _ (xs ++ pre) [(m : Int) % 128 + 128] rfl hv' (some ⟨wr.heap.size, 0, none⟩) 1 1 rfl rfl hS2 (by simp) (by simp; omega) (by simp; omega) ?_; intro v3 w3 hv3 hg3)
      go_roundw
      case rel =>
        refine ⟨m / 128, pre ++ [(m : Int) % 128 + 128], by omega, by go_num, by simpa using hv3, ?_, hB2.grown hg3 (by simp; omega) hv'.own⟩
        rw [← Hpre.out, digs_big m (by omega)]
        simp
      case measure => simp [intOf]; omega
    · have hc1 : Byt (m : Int) := by unfold Byt; omega
      have hS2 := seg_one wr _ hc1
      have hv' := hv.alloc (.cells #[.int .u8 (m : Int)] 5)
      have hB2 : Below w.heap.size w (wr.alloc (.cells #[.int .u8 (m : Int)] 5)) := hbel.alloc (by omega) _
      go_wp2_with (at_builtin; refine wpList_append_seg rfl _ _ rfl w.heap.size _ (xs ++ pre) [(m : Int)] rfl hv' (some ⟨wr.heap.size, 0, none⟩) 1 1 rfl rfl hS2 (by simp) (by simp; omega) (by simp; omega) ?_; intro v3 w3 hv3 hg3)
      go_ret
      refine ⟨_, rfl, ?_, hB2.grown hg3 (by simp; omega) hv'.own⟩
      rw [Hp.out, ← Hpre.out, digs_small m (by omega), ← List.append_assoc]
      exact hv3

theorem spec_PutNum_any (a : Option Addr) (cap : Nat) (xs : List Int) (n : Int) (w : World) (hs : Seg w a xs) (hc : a = none → cap = 0) (hl : xs.length ≤ 2097152) :
    Calls Try.prog 28 #[.slice a xs.length cap, .int .i64 n] w fun e w' => ∃ v, e = .returned v ∧ Bts w' w.heap.size v (putNum xs n) ∧ Below w.heap.size w w' := by
  by_cases h : n < 0 ∨ 2147483647 < n
  · exact spec_PutNum_no a cap xs n w hs hc hl h
  · exact spec_PutNum_yes a cap xs n w hs hc hl (by omega) (by omega)

end Go.Proofs.Ythgcljefmkiepaa
/-
  joined, PutNum and NumLen of the program, NumLen of the specification.
-/
namespace Go.Proofs.Ythgcljefmkiepaa
open Go.RowKit
set_option linter.unusedVariables false

theorem bts_made {w1 : World} {base g cap : Nat} (h : w1.ownsRow base 5 1 (.slice (some ⟨g, 0, none⟩) 0 cap) 0 []) : Bts w1 base (.slice (some ⟨g, 0, none⟩) 0 cap) [] := ⟨by simp, by simpa [cellsOf] using h⟩

theorem slice5 (w : World) (b dl : Nat) (h : dl ≤ 5) : (Instr.sliceAt 84 (.pointer (some ⟨b, 0, none⟩)) none (some (.int .i64 dl)) none).run Try.prog w = .ok (.slice (some ⟨b, 0, none⟩) dl 5) w := by
  rcases (show dl = 0 ∨ dl = 1 ∨ dl = 2 ∨ dl = 3 ∨ dl = 4 ∨ dl = 5 from by omega) with rfl | rfl | rfl | rfl | rfl | rfl <;> kernel_rfl

set_option maxHeartbeats 800000 in
theorem joined_any (a b : Option Addr) (c1 c2 : Nat) (xs ys : List Int) (w : World) (ha : Seg w a xs) (hb : Seg w b ys) (ka : a = none → c1 = 0) (kb : b = none → c2 = 0) (hl1 : xs.length ≤ 4194304) (hl2 : ys.length ≤ 4194304) :
    Calls Try.prog 43 #[.slice a xs.length c1, .slice b ys.length c2] w fun e w' => ∃ v, e = .returned v ∧ Bts w' w.heap.size v (xs ++ ys) ∧ Below w.heap.size w w' := by
  obtain ⟨i0, hi, hz0, hz1, hz2⟩ := info_parts info5
  generalize hn1 : xs.length = n1
  generalize hn2 : ys.length = n2
  have Hn1 : Hid (n1 = xs.length) := hn1.symm
  have Hn2 : Hid (n2 = ys.length) := hn2.symm
  have hm1 : n1 ≤ 4194304 := by omega
  have hm2 : n2 ≤ 4194304 := by omega
  clear hn1 hn2
  go_enter Try.func43, Try.ntmps43
  go_wp2_with (first | (refine wpList_make_own _ rfl _ _ 22 rfl w.heap.size 5 i0 (.int .u8 0) 1 Try.underlying22 hi hz0 hz1 .i64 .i64 _ (n1 + n2) rfl rfl (by omega) (by rw [hz2]; omega) (by unfold maxLen; omega) (Nat.le_refl _) ?_; intro w1 hown hgrow; have hE := bts_made hown; have hB1 : Below w.heap.size w w1 := (Below.refl _ _).grown hgrow (Nat.le_refl _) (by simp); have hS1 := ha.grow hB1; have hz1 : w.heap.size ≤ w1.heap.size := hB1.size; clear hown hgrow) | (at_builtin; refine wpList_append_seg rfl (.tmp 12) (.tmp 13) rfl w.heap.size _ [] xs rfl hE a n1 c1 Hn1.out rfl hS1 ka (by simp; omega) hz1 ?_; intro v2 w2 hv2 hg2; have hB2 : Below w.heap.size w w2 := hB1.grown hg2 hz1 hE.own; have hS2 := hb.grow hB2; have hz2 : w.heap.size ≤ w2.heap.size := hB2.size; simp only [List.nil_append] at hv2; clear hg2 hE hS1) | (at_builtin; refine wpList_append_seg rfl (.tmp 15) (.tmp 16) rfl w.heap.size _ xs ys rfl hv2 b n2 c2 Hn2.out rfl hS2 kb (by omega) hz2 ?_; intro v3 w3 hv3 hg3))
  go_ret
  exact ⟨_, rfl, hv3, hB2.grown hg3 hz2 hv2.own⟩

/-- The first bytes of an array of five. -/
theorem seg_arr5 (w : World) (c0 c1 c2 c3 c4 : Int) (ds : List Int) (k : Nat) (h : [c0, c1, c2, c3, c4] = ds ++ List.replicate k 0) (hb : ∀ x ∈ ds, Byt x) :
    Seg (w.alloc (.cells #[.int .u8 c0, .int .u8 c1, .int .u8 c2, .int .u8 c3, .int .u8 c4] 84)) (some ⟨w.heap.size, 0, none⟩) ds := by
  refine ⟨hb, .inr ⟨w.heap.size, 0, rfl, fun i hi => ?_⟩⟩
  have hlen := congrArg List.length h
  simp at hlen
  have h5 : i < 5 := by omega
  have hd : [c0, c1, c2, c3, c4].getD i 0 = ds.getD i 0 := by
    rw [h]
    simp [List.getD_eq_getElem?_getD, List.getElem?_append, hi]
  rw [← hd, Nat.zero_add]
  rcases (show i = 0 ∨ i = 1 ∨ i = 2 ∨ i = 3 ∨ i = 4 from by omega) with rfl | rfl | rfl | rfl | rfl <;> simp

set_option maxHeartbeats 800000 in
theorem impl_PutNum_any (a : Option Addr) (cap : Nat) (xs : List Int) (n : Int) (w : World) (hs : Seg w a xs) (hc : a = none → cap = 0) (hl : xs.length ≤ 2097152) :
    Calls Try.prog 31 #[.slice a xs.length cap, .int .i64 n] w fun e w' => ∃ v, e = .returned v ∧ Bts w' w.heap.size v (putNum xs n) ∧ Below w.heap.size w w' := by
  by_cases h : n < 0 ∨ 2147483647 < n
  · have Hp : Hid (putNum xs n = xs) := putNum_no xs n h
    go_enter Try.func31, Try.ntmps31
    go_wp2_with fail
    refine (numDigits_no n _ h).mono ?_
    rintro e w1 ⟨rfl, b1⟩
    have b2 : Below w.heap.size w (w1.alloc (.cells #[.int .u8 0, .int .u8 0, .int .u8 0, .int .u8 0, .int .u8 0] 84)) := b1.alloc b1.size _
    have hsz := b1.size
    go_wp2_with fail
    refine (joined_any _ _ _ _ xs [] _ (hs.grow b2) ⟨by simp, .inl rfl⟩ hc (by simp) (by omega) (by simp)).mono ?_
    rintro e w3 ⟨v, rfl, hv, b3⟩
    simp only [List.append_nil] at hv
    go_wp2
    go_ret
    exact ⟨_, rfl, by rw [Hp.out]; exact hv.mono (by simp; omega), Below.on b2 b3⟩
  · obtain ⟨m, rfl⟩ := Int.eq_ofNat_of_zero_le (show 0 ≤ n by omega)
    have hm : m ≤ 2147483647 := by omega
    have hp : putNum xs m = xs ++ digs m := by
      have := putNum_yes xs m (by omega) (by omega)
      simpa using this
    have Hp : Hid (putNum xs m = xs ++ digs m) := hp
    clear hp
    clear h
    go_enter Try.func31, Try.ntmps31
    go_wp2_with fail
    refine (numDigits_yes m _ hm).mono ?_
    rintro e w1 ⟨c0, c1, c2, c3, c4, rfl, hcs, b1⟩
    have hlen := digs_len m hm
    have b2 : Below w.heap.size w (w1.alloc (.cells #[.int .u8 c0, .int .u8 c1, .int .u8 c2, .int .u8 c3, .int .u8 c4] 84)) := b1.alloc b1.size _
    have hS := seg_arr5 w1 c0 c1 c2 c3 c4 (digs m) _ hcs (digs_byt m)
    have hsz := b1.size
    clear hcs
    have hJ := fun (wx : World) (ha : Seg wx a xs) (hb : Seg wx (some ⟨w1.heap.size, 0, none⟩) (digs m)) => joined_any a (some ⟨w1.heap.size, 0, none⟩) cap 5 xs (digs m) wx ha hb hc (by simp) (by omega) (by omega)
    have HJ : Hid (∀ (wx : World) (ha : Seg wx a xs) (hb : Seg wx (some ⟨w1.heap.size, 0, none⟩) (digs m)), Calls Try.prog 43 #[.slice a xs.length cap, .slice (some ⟨w1.heap.size, 0, none⟩) (digs m).length 5] wx fun e w' => ∃ v, e = .returned v ∧ Bts w' wx.heap.size v (xs ++ digs m) ∧ Below wx.heap.size wx w') := hJ
    clear hJ
    generalize (digs m).length = dl at *
    have hsl := fun wx => slice5 wx w1.heap.size dl hlen
    go_wp2_with fail
    refine (HJ.out _ (hs.grow b2) hS).mono ?_
    rintro e w3 ⟨v, rfl, hv, b3⟩
    go_wp2
    go_ret
    exact ⟨_, rfl, by rw [Hp.out]; exact hv.mono (by simp; omega), Below.on b2 b3⟩

end Go.Proofs.Ythgcljefmkiepaa
/-
  PutText of the program and of the specification: a text with its length ahead, behind a copy of what was there.
-/
namespace Go.Proofs.Ythgcljefmkiepaa
open Go.RowKit
set_option linter.unusedVariables false

/-- What PutText answers. -/
def putText (xs ts : List Int) : List Int := if 20 < ts.length then xs else putNum xs ts.length ++ ts
theorem putText_no (xs ts : List Int) (h : 20 < ts.length) : putText xs ts = xs := by simp [putText, h]
theorem putText_yes (xs ts : List Int) (h : ¬ 20 < ts.length) : putText xs ts = putNum xs ts.length ++ ts := by simp [putText, h]
theorem putText_len (xs ts : List Int) : (putText xs ts).length ≤ xs.length + 25 := by
  unfold putText
  split
  · omega
  · have := putNum_len xs ts.length
    simp; omega

set_option maxHeartbeats 800000 in
theorem spec_PutText_any (a b : Option Addr) (c1 c2 : Nat) (xs ts : List Int) (w : World) (ha : Seg w a xs) (hb : Seg w b ts) (ka : a = none → c1 = 0) (kb : b = none → c2 = 0) (hl : xs.length ≤ 2097152) (hl2 : ts.length ≤ 2097152) :
    Calls Try.prog 29 #[.slice a xs.length c1, .slice b ts.length c2] w fun e w' => ∃ v, e = .returned v ∧ Bts w' w.heap.size v (putText xs ts) ∧ Below w.heap.size w w' := by
  by_cases h : 20 < ts.length
  · have Hp : Hid (putText xs ts = xs) := putText_no xs ts h
    have h' : (20 : Int) < (ts.length : Int) := by omega
    have hE := bts_empty w
    have hB1 : Below w.heap.size w (w.alloc (.cells #[] 5)) := (Below.refl _ _).alloc (Nat.le_refl _) _
    have hS1 := ha.grow hB1
    generalize hn : xs.length = n at *
    have Hn : Hid (n = xs.length) := hn.symm
    clear hn
    go_enter Try.func29, Try.ntmps29
    go_wp2_with (at_builtin; refine wpList_append_seg rfl (.tmp 8) (.tmp 9) rfl w.heap.size _ [] xs rfl hE a n c1 Hn.out rfl hS1 ka (by simp; have := Hn.out; omega) (by simp) ?_; intro v2 w2 hv2 hg2)
    go_ret
    exact ⟨_, rfl, by rw [Hp.out]; exact hv2, hB1.grown hg2 (by simp) hE.own⟩
  · have Hp : Hid (putText xs ts = putNum xs ts.length ++ ts) := putText_yes xs ts h
    have h' : ¬ (20 : Int) < (ts.length : Int) := by omega
    have hpl := putNum_len xs ts.length
    generalize hn : ts.length = n at *
    have Hn : Hid (n = ts.length) := hn.symm
    clear hn
    go_enter Try.func29, Try.ntmps29
    go_wp2_with fail
    refine (spec_PutNum_any _ _ xs n _ ha ka (by omega)).mono ?_
    rintro e w1 ⟨v1, rfl, hv1, b1⟩
    have hS := hb.grow b1
    have z1 := b1.size
    go_wp2_with (at_builtin; refine wpList_append_seg rfl (.tmp 14) (.tmp 15) rfl w.heap.size _ (putNum xs n) ts rfl hv1 b n c2 Hn.out rfl hS kb (by have := Hn.out; omega) z1 ?_; intro v2 w2 hv2 hg2)
    go_ret
    exact ⟨_, rfl, by rw [Hp.out]; exact hv2, b1.grown hg2 z1 hv1.own⟩

set_option maxHeartbeats 800000 in
theorem impl_PutText_any (a b : Option Addr) (c1 c2 : Nat) (xs ts : List Int) (w : World) (ha : Seg w a xs) (hb : Seg w b ts) (ka : a = none → c1 = 0) (kb : b = none → c2 = 0) (hl : xs.length ≤ 2097152) (hl2 : ts.length ≤ 2097152) :
    Calls Try.prog 33 #[.slice a xs.length c1, .slice b ts.length c2] w fun e w' => ∃ v, e = .returned v ∧ Bts w' w.heap.size v (putText xs ts) ∧ Below w.heap.size w w' := by
  by_cases h : 20 < ts.length
  · have Hp : Hid (putText xs ts = xs) := putText_no xs ts h
    have h' : (20 : Int) < (ts.length : Int) := by omega
    go_enter Try.func33, Try.ntmps33
    go_wp2_with fail
    refine (joined_any _ _ _ _ xs [] _ ha ⟨by simp, .inl rfl⟩ ka (by simp) (by omega) (by simp)).mono ?_
    rintro e w1 ⟨v1, rfl, hv1, b1⟩
    simp only [List.append_nil] at hv1
    go_wp2
    go_ret
    exact ⟨_, rfl, by rw [Hp.out]; exact hv1, b1⟩
  · have Hp : Hid (putText xs ts = putNum xs ts.length ++ ts) := putText_yes xs ts h
    have h' : ¬ (20 : Int) < (ts.length : Int) := by omega
    have hpl := putNum_len xs ts.length
    go_enter Try.func33, Try.ntmps33
    go_wp2_with fail
    refine (impl_PutNum_any _ _ xs ts.length _ ha ka (by omega)).mono ?_
    rintro e w1 ⟨v1, rfl, hv1, b1⟩
    obtain ⟨a1, d1, rfl, _, _, _, _, k1⟩ := hv1.shape
    have hS := hb.grow b1
    go_wp2_with fail
    refine (joined_any _ _ _ _ (putNum xs ts.length) ts _ hv1.seg hS k1 kb (by omega) (by omega)).mono ?_
    rintro e w2 ⟨v2, rfl, hv2, b2⟩
    go_wp2
    go_ret
    exact ⟨_, rfl, by rw [Hp.out]; exact hv2.mono b1.size, Below.on b1 b2⟩

end Go.Proofs.Ythgcljefmkiepaa
/-
  The bytes of a value. Plain mathematics.
-/
namespace Go.Proofs.Ythgcljefmkiepaa
open Go.RowKit
set_option linter.unusedVariables false
set_option linter.unusedSimpArgs false

/-- A number with its sign. -/
def putI (xs : List Int) (n : Int) : List Int := if n < 0 then putNum (putNum (putNum xs 1) (-n / 1000000)) (-n % 1000000) else putNum (putNum (putNum xs 0) (n / 1000000)) (n % 1000000)

/-- The bytes of the first k kids, each behind its key, if there are keys. -/
def kidB {α : Type} (f : α → List Int → List Int) (m : Bool) (K : List (List Int)) (L : List α) (b : List Int) : Nat → List Int
  | 0 => b
  | k + 1 => match L[k]? with
    | some x => f x (if m then putText (kidB f m K L b k) (K.getD k []) else kidB f m K L b k)
    | none => kidB f m K L b k

/-- The bytes of a value, behind what is there. -/
def bytV : (d : Nat) → Vl d → List Int → List Int
  | 0, _, xs => xs
  | d + 1, v, xs =>
    if v.1 = 1 then putNum (putNum xs v.1) v.2.1
    else if v.1 = 2 then putI (putNum xs v.1) v.2.1
    else if v.1 = 3 then putText (putNum xs v.1) v.2.2.1
    else if v.1 = 4 ∨ v.1 = 5 then kidB (fun x b => bytV d x b) (decide (v.1 = 5)) v.2.2.2.1 v.2.2.2.2 (putNum (putNum xs v.1) v.2.2.2.2.length) v.2.2.2.2.length
    else putNum xs v.1

theorem kidB_succ {α : Type} (f : α → List Int → List Int) (m : Bool) (K : List (List Int)) (L : List α) (b : List Int) (k : Nat) (h : k < L.length) :
    kidB f m K L b (k + 1) = f L[k] (if m then putText (kidB f m K L b k) (K.getD k []) else kidB f m K L b k) := by
  show (match L[k]? with | some x => _ | none => _) = _
  rw [List.getElem?_eq_getElem h]

theorem putI_len (xs : List Int) (n : Int) : (putI xs n).length ≤ xs.length + 15 := by
  unfold putI
  split
  · have h1 := putNum_len xs 1
    have h2 := putNum_len (putNum xs 1) (-n / 1000000)
    have h3 := putNum_len (putNum (putNum xs 1) (-n / 1000000)) (-n % 1000000)
    omega
  · have h1 := putNum_len xs 0
    have h2 := putNum_len (putNum xs 0) (n / 1000000)
    have h3 := putNum_len (putNum (putNum xs 0) (n / 1000000)) (n % 1000000)
    omega

theorem kidB_len {α : Type} (f : α → List Int → List Int) (c : α → Nat) (hf : ∀ x b, (f x b).length + 25 ≤ b.length + 60 * c x) (m : Bool) (K : List (List Int)) (L : List α) (b : List Int) : ∀ k, k ≤ L.length → (kidB f m K L b k).length ≤ b.length + 60 * pre c L k
  | 0, _ => by simp [kidB]
  | k + 1, hk => by
    have ih := kidB_len f c hf m K L b k (by omega)
    rw [kidB_succ f m K L b k (by omega), pre_succ c L k (by omega)]
    cases m with
    | true =>
      have h1 := hf L[k] (putText (kidB f true K L b k) (K.getD k []))
      have h2 := putText_len (kidB f true K L b k) (K.getD k [])
      simp only [if_true]
      omega
    | false =>
      have h1 := hf L[k] (kidB f false K L b k)
      simp only [Bool.false_eq_true, if_false]
      omega

theorem bytV_len : ∀ (d : Nat) (v : Vl d) (xs : List Int), (bytV d v xs).length + 25 ≤ xs.length + 60 * partsV d v
  | 0, v, _ => v.elim
  | d + 1, v, xs => by
    obtain ⟨vk, vn, vs, vK, vL⟩ := v
    have hp := parts_succ d vk vn vs vK vL
    have h0 := putNum_len xs vk
    show (if vk = 1 then putNum (putNum xs vk) vn else if vk = 2 then putI (putNum xs vk) vn else if vk = 3 then putText (putNum xs vk) vs
      else if vk = 4 ∨ vk = 5 then kidB (fun x b => bytV d x b) (decide (vk = 5)) vK vL (putNum (putNum xs vk) vL.length) vL.length else putNum xs vk).length + 25 ≤ _
    split
    · have := putNum_len (putNum xs vk) vn
      omega
    split
    · have := putI_len (putNum xs vk) vn
      omega
    split
    · have := putText_len (putNum xs vk) vs
      omega
    split
    · have h1 := kidB_len (fun x b => bytV d x b) (partsV d) (fun x b => bytV_len d x b) (decide (vk = 5)) vK vL (putNum (putNum xs vk) vL.length) vL.length (Nat.le_refl _)
      have h2 := putNum_len (putNum xs vk) vL.length
      omega
    · omega

theorem bytV_bool (d : Nat) (vn : Int) (vs : List Int) (vK : List (List Int)) (vL : List (Vl d)) (xs : List Int) : bytV (d + 1) (1, vn, vs, vK, vL) xs = putNum (putNum xs 1) vn := rfl
theorem bytV_int (d : Nat) (vn : Int) (vs : List Int) (vK : List (List Int)) (vL : List (Vl d)) (xs : List Int) : bytV (d + 1) (2, vn, vs, vK, vL) xs = putI (putNum xs 2) vn := rfl
theorem bytV_text (d : Nat) (vn : Int) (vs : List Int) (vK : List (List Int)) (vL : List (Vl d)) (xs : List Int) : bytV (d + 1) (3, vn, vs, vK, vL) xs = putText (putNum xs 3) vs := rfl
theorem bytV_list (d : Nat) (vn : Int) (vs : List Int) (vK : List (List Int)) (vL : List (Vl d)) (xs : List Int) : bytV (d + 1) (4, vn, vs, vK, vL) xs = kidB (fun x b => bytV d x b) false vK vL (putNum (putNum xs 4) vL.length) vL.length := rfl
theorem bytV_map (d : Nat) (vn : Int) (vs : List Int) (vK : List (List Int)) (vL : List (Vl d)) (xs : List Int) : bytV (d + 1) (5, vn, vs, vK, vL) xs = kidB (fun x b => bytV d x b) true vK vL (putNum (putNum xs 5) vL.length) vL.length := rfl
theorem bytV_bare (d : Nat) (vk vn : Int) (hk : vk = 0 ∨ vk = 6) (vs : List Int) (vK : List (List Int)) (vL : List (Vl d)) (xs : List Int) : bytV (d + 1) (vk, vn, vs, vK, vL) xs = putNum xs vk := by
  rcases hk with rfl | rfl <;> rfl

/-- What ValBytes answers. -/
def valBytes (d : Nat) (v : Vl d) : List Int := if okB d v = true then bytV d v [] else []
end Go.Proofs.Ythgcljefmkiepaa
/-
  ValBytes of the specification: l2put.
-/
namespace Go.Proofs.Ythgcljefmkiepaa
open Go.RowKit
set_option linter.unusedVariables false
set_option linter.unusedSimpArgs false

/-- The contract of l2put at depth d. -/
def SByAt (d : Nat) : Prop := ∀ (N : Nat) (a : Option Addr) (cap : Nat) (xs : List Int) (c : Value × Value × Value × Value × Value) (v : Vl d) (deep : Nat) (w : World), VSeg (fun b => b < N) w d c v → N ≤ w.heap.size → Seg w a xs → (a = none → cap = 0) → goodB d v deep = true → xs.length + 60 * partsV d v ≤ 1000000 →
  Calls Try.prog 17 #[.slice a xs.length cap, .agg #[c.1, c.2.1, c.2.2.1, c.2.2.2.1, c.2.2.2.2]] w fun e w' => ∃ u, e = .returned u ∧ Bts w' w.heap.size u (bytV d v xs) ∧ Below w.heap.size w w'

/-- What a call of PutNum or PutText has left. -/
def PEnd (w : World) (ys : List Int) (e : Ending) (w' : World) : Prop := ∃ a c, e = .returned (.slice a ys.length c) ∧ Bts w' w.heap.size (.slice a ys.length c) ys ∧ Below w.heap.size w w' ∧ (a = none → c = 0)

theorem pend_of {w w' : World} {e : Ending} {ys : List Int} (h : ∃ v, e = .returned v ∧ Bts w' w.heap.size v ys ∧ Below w.heap.size w w') : PEnd w ys e w' := by
  obtain ⟨v, rfl, h1, h2⟩ := h
  obtain ⟨a, c, rfl, _, _, _, _, k⟩ := h1.shape
  exact ⟨a, c, rfl, h1, h2, k⟩

theorem spec_PutNum_end (a : Option Addr) (cap : Nat) (xs : List Int) (n : Int) (w : World) (hs : Seg w a xs) (hc : a = none → cap = 0) (hl : xs.length ≤ 2097152) : Calls Try.prog 28 #[.slice a xs.length cap, .int .i64 n] w (PEnd w (putNum xs n)) :=
  (spec_PutNum_any a cap xs n w hs hc hl).mono fun e w' h => pend_of h
theorem spec_PutText_end (a b : Option Addr) (c1 c2 : Nat) (xs ts : List Int) (w : World) (ha : Seg w a xs) (hb : Seg w b ts) (ka : a = none → c1 = 0) (kb : b = none → c2 = 0) (hl : xs.length ≤ 2097152) (hl2 : ts.length ≤ 2097152) : Calls Try.prog 29 #[.slice a xs.length c1, .slice b ts.length c2] w (PEnd w (putText xs ts)) :=
  (spec_PutText_any a b c1 c2 xs ts w ha hb ka kb hl hl2).mono fun e w' h => pend_of h

set_option maxHeartbeats 1000000 in
set_option maxRecDepth 100000 in
theorem l2put_leaf (d N : Nat) (a : Option Addr) (cap : Nat) (xs : List Int) (vk vn : Int) (vs : List Int) (vK : List (List Int)) (vL : List (Vl d)) (a2 : Option Addr) (p2 : Nat) (c3 c4 : Value) (w : World) (hs : Seg w a xs) (ka : a = none → cap = 0) (hl : xs.length ≤ 1000000) (s2 : Seg w a2 vs) (k2 : a2 = none → p2 = 0) (m2 : vs.length ≤ 1000000)
    (h3 : ∃ b n p, c3 = .slice b n p) (h4 : ∃ b n p, c4 = .slice b n p) (hk : vk = 0 ∨ vk = 6 ∨ vk = 1 ∨ vk = 3) :
    Calls Try.prog 17 #[.slice a xs.length cap, .agg #[.int .i64 vk, .int .i64 vn, .slice a2 vs.length p2, c3, c4]] w fun e w' => ∃ u, e = .returned u ∧ Bts w' w.heap.size u (bytV (d + 1) (vk, vn, vs, vK, vL) xs) ∧ Below w.heap.size w w' := by
  obtain ⟨b3, n3, q3, rfl⟩ := h3
  obtain ⟨b4, n4, q4, rfl⟩ := h4
  have b0 : ∀ o : Obj, Below w.heap.size w (w.alloc o) := fun o => (Below.refl _ _).alloc (Nat.le_refl _) o
  have Hb := hide' b0
  have H1 : Hid (∀ o : Obj, Calls Try.prog 28 #[.slice a xs.length cap, .int .i64 vk] (w.alloc o) (PEnd (w.alloc o) (putNum xs vk))) := fun o => spec_PutNum_end a cap xs vk _ (hs.grow (b0 o)) ka (by omega)
  have hpl := putNum_len xs vk
  have HS2 : Hid (∀ wx, Below w.heap.size w wx → Seg wx a2 vs) := fun wx hb => s2.grow hb
  have HP : Hid (∀ (a1 : Option Addr) (c1 : Nat) (ys : List Int) (n : Int) (wx : World), Bts wx 0 (.slice a1 ys.length c1) ys → (a1 = none → c1 = 0) → ys.length ≤ 2000000 → Calls Try.prog 28 #[.slice a1 ys.length c1, .int .i64 n] wx (PEnd wx (putNum ys n))) := fun a1 c1 ys n wx hB k hlen => spec_PutNum_end a1 c1 ys n wx hB.seg k (by omega)
  have HT : Hid (∀ (a1 : Option Addr) (c1 : Nat) (ys : List Int) (wx : World), Bts wx 0 (.slice a1 ys.length c1) ys → (a1 = none → c1 = 0) → ys.length ≤ 2000000 → Below w.heap.size w wx → Calls Try.prog 29 #[.slice a1 ys.length c1, .slice a2 vs.length p2] wx (PEnd wx (putText ys vs))) := fun a1 c1 ys wx hB k hlen hbw => spec_PutText_end a1 a2 c1 p2 ys vs wx hB.seg (HS2.out wx hbw) k k2 (by omega) (by omega)
  clear b0 hs s2
  rcases hk with hk | hk | rfl | rfl
  · subst hk
    have HF : Hid (bytV (d + 1) (0, vn, vs, vK, vL) xs = putNum xs 0) := bytV_bare d 0 vn (.inl rfl) vs vK vL xs
    go_enter Try.func17, Try.ntmps17
    go_wp2_with fail
    refine (H1.out _).mono ?_
    rintro e w1 ⟨a1, c1, rfl, hB1, b1, k1⟩
    obtain ⟨y0, y1, y2, y3, y4, _⟩ := row5 (box_row b1)
    have B1 := Below.on (Hb.out _) b1
    have HB1 := hide' (hB1.mono (base' := w.heap.size) (by simp))
    generalize (putNum xs 0).length = n1 at *
    clear b1 hB1
    go_wp2
    go_ret
    exact ⟨_, rfl, by rw [HF.out]; exact HB1.out, B1⟩
  · subst hk
    have HF : Hid (bytV (d + 1) (6, vn, vs, vK, vL) xs = putNum xs 6) := bytV_bare d 6 vn (.inr rfl) vs vK vL xs
    go_enter Try.func17, Try.ntmps17
    go_wp2_with fail
    refine (H1.out _).mono ?_
    rintro e w1 ⟨a1, c1, rfl, hB1, b1, k1⟩
    obtain ⟨y0, y1, y2, y3, y4, _⟩ := row5 (box_row b1)
    have B1 := Below.on (Hb.out _) b1
    have HB1 := hide' (hB1.mono (base' := w.heap.size) (by simp))
    generalize (putNum xs 6).length = n1 at *
    clear b1 hB1
    go_wp2
    go_ret
    exact ⟨_, rfl, by rw [HF.out]; exact HB1.out, B1⟩
  · have HF : Hid (bytV (d + 1) (1, vn, vs, vK, vL) xs = putNum (putNum xs 1) vn) := bytV_bool d vn vs vK vL xs
    go_enter Try.func17, Try.ntmps17
    go_wp2_with fail
    refine (H1.out _).mono ?_
    rintro e w1 ⟨a1, c1, rfl, hB1, b1, k1⟩
    obtain ⟨y0, y1, y2, y3, y4, _⟩ := row5 (box_row b1)
    have B1 := Below.on (Hb.out _) b1
    have H2 := hide' (HP.out a1 c1 (putNum xs 1) vn w1 (hB1.mono (by omega)) k1 (by omega))
    generalize putNum xs 1 = z1 at *
    generalize z1.length = n1 at *
    clear b1 hB1
    go_wp2_with fail
    refine H2.out.mono ?_
    rintro e w2 ⟨a2', c2', rfl, hB2, b2, k2'⟩
    have B2 := Below.on B1 b2
    have HB2 := hide' (hB2.mono (base' := w.heap.size) B1.size)
    generalize (putNum z1 vn).length = n2 at *
    clear b2 hB2 H2
    go_wp2
    go_ret
    exact ⟨_, rfl, by rw [HF.out]; exact HB2.out, B2⟩
  · have HF : Hid (bytV (d + 1) (3, vn, vs, vK, vL) xs = putText (putNum xs 3) vs) := bytV_text d vn vs vK vL xs
    go_enter Try.func17, Try.ntmps17
    go_wp2_with fail
    refine (H1.out _).mono ?_
    rintro e w1 ⟨a1, c1, rfl, hB1, b1, k1⟩
    obtain ⟨y0, y1, y2, y3, y4, _⟩ := row5 (box_row b1)
    have B1 := Below.on (Hb.out _) b1
    have H2 := hide' (HT.out a1 c1 (putNum xs 3) w1 (hB1.mono (by omega)) k1 (by omega) B1)
    generalize putNum xs 3 = z1 at *
    generalize z1.length = n1 at *
    clear b1 hB1
    go_wp2_with fail
    refine H2.out.mono ?_
    rintro e w2 ⟨a2', c2', rfl, hB2, b2, k2'⟩
    have B2 := Below.on B1 b2
    have HB2 := hide' (hB2.mono (base' := w.heap.size) B1.size)
    generalize (putText z1 vs).length = n2 at *
    clear b2 hB2 H2
    go_wp2
    go_ret
    exact ⟨_, rfl, by rw [HF.out]; exact HB2.out, B2⟩
end Go.Proofs.Ythgcljefmkiepaa
/-
  ValBytes of the specification: l2put of a number.
-/
namespace Go.Proofs.Ythgcljefmkiepaa
open Go.RowKit
set_option linter.unusedVariables false
set_option linter.unusedSimpArgs false

theorem wrap_id (x : Int) (h : 0 ≤ x) (h2 : x ≤ 1000000000000) : wrap64 x = x := by unfold wrap64; omega
theorem wd_pos (n : Int) (h : 0 ≤ n) (h2 : n ≤ 1000000000000) : wrap64 (n.tdiv 1000000) = n / 1000000 := by
  rw [Int.tdiv_eq_ediv_of_nonneg h]; exact wrap_id _ (by omega) (by omega)
theorem wm_pos (n : Int) (h : 0 ≤ n) : n.tmod 1000000 = n % 1000000 := Int.tmod_eq_emod_of_nonneg h
theorem wmw_pos (n : Int) (h : 0 ≤ n) : wrap64 (n.tmod 1000000) = n % 1000000 := by rw [wm_pos n h]; exact wrap_id _ (by omega) (by omega)
theorem wd_neg (n : Int) (h : n < 0) (h2 : -n ≤ 1000000000000) : wrap64 (-n.tdiv 1000000) = -n / 1000000 := by
  rw [← Int.neg_tdiv]; exact wd_pos (-n) (by omega) h2
theorem wm_neg (n : Int) (h : n < 0) : -n.tmod 1000000 = -n % 1000000 := by rw [← Int.neg_tmod]; exact wm_pos (-n) (by omega)
theorem wmw_neg (n : Int) (h : n < 0) : wrap64 (-n.tmod 1000000) = -n % 1000000 := by rw [wm_neg n h]; exact wrap_id _ (by omega) (by omega)

set_option maxHeartbeats 1000000 in
set_option maxRecDepth 100000 in
theorem l2put_int (d N : Nat) (a : Option Addr) (cap : Nat) (xs : List Int) (vn : Int) (vs : List Int) (vK : List (List Int)) (vL : List (Vl d)) (a2 : Option Addr) (p2 : Nat) (c3 c4 : Value) (w : World) (hs : Seg w a xs) (ka : a = none → cap = 0) (hl : xs.length ≤ 1000000) (s2 : Seg w a2 vs) (k2 : a2 = none → p2 = 0) (m2 : vs.length ≤ 1000000)
    (h3 : ∃ b n p, c3 = .slice b n p) (h4 : ∃ b n p, c4 = .slice b n p) (hlo : -1000000000000 ≤ vn) (hhi : vn ≤ 1000000000000) :
    Calls Try.prog 17 #[.slice a xs.length cap, .agg #[.int .i64 2, .int .i64 vn, .slice a2 vs.length p2, c3, c4]] w fun e w' => ∃ u, e = .returned u ∧ Bts w' w.heap.size u (bytV (d + 1) (2, vn, vs, vK, vL) xs) ∧ Below w.heap.size w w' := by
  obtain ⟨b3, n3, q3, rfl⟩ := h3
  obtain ⟨b4, n4, q4, rfl⟩ := h4
  have b0 : ∀ o : Obj, Below w.heap.size w (w.alloc o) := fun o => (Below.refl _ _).alloc (Nat.le_refl _) o
  have Hb := hide' b0
  have H1 : Hid (∀ o : Obj, Calls Try.prog 28 #[.slice a xs.length cap, .int .i64 2] (w.alloc o) (PEnd (w.alloc o) (putNum xs 2))) := fun o => spec_PutNum_end a cap xs 2 _ (hs.grow (b0 o)) ka (by omega)
  have hpl := putNum_len xs 2
  have HS2 : Hid (∀ wx, Below w.heap.size w wx → Seg wx a2 vs) := fun wx hb => s2.grow hb
  have HP : Hid (∀ (a1 : Option Addr) (c1 : Nat) (ys : List Int) (n : Int) (wx : World), Bts wx 0 (.slice a1 ys.length c1) ys → (a1 = none → c1 = 0) → ys.length ≤ 2000000 → Calls Try.prog 28 #[.slice a1 ys.length c1, .int .i64 n] wx (PEnd wx (putNum ys n))) := fun a1 c1 ys n wx hB k hlen => spec_PutNum_end a1 c1 ys n wx hB.seg k (by omega)
  have HT : Hid (∀ (a1 : Option Addr) (c1 : Nat) (ys : List Int) (wx : World), Bts wx 0 (.slice a1 ys.length c1) ys → (a1 = none → c1 = 0) → ys.length ≤ 2000000 → Below w.heap.size w wx → Calls Try.prog 29 #[.slice a1 ys.length c1, .slice a2 vs.length p2] wx (PEnd wx (putText ys vs))) := fun a1 c1 ys wx hB k hlen hbw => spec_PutText_end a1 a2 c1 p2 ys vs wx hB.seg (HS2.out wx hbw) k k2 (by omega) (by omega)
  clear b0 hs s2
  by_cases hneg : vn < 0
  · have HF : Hid (bytV (d + 1) (2, vn, vs, vK, vL) xs = putNum (putNum (putNum (putNum xs 2) 1) (-vn / 1000000)) (-vn % 1000000)) := by show _ = _; rw [bytV_int, putI, if_pos hneg]
    have hp1 := putNum_len (putNum xs 2) 1
    have hp2 := putNum_len (putNum (putNum xs 2) 1) (-vn / 1000000)
    have hm0 : 0 ≤ -vn := by omega
    have hm1 : -vn ≤ 1000000000000 := by omega
    have hd : wrap64 (-vn.tdiv 1000000) = -vn / 1000000 := wd_neg vn (by omega) (by omega)
    have hm : -vn.tmod 1000000 = -vn % 1000000 := wm_neg vn (by omega)
    have hmw : wrap64 (-vn.tmod 1000000) = -vn % 1000000 := wmw_neg vn (by omega)
    have Hd := hide' hd
    have Hm := hide' hm
    have Hmw := hide' hmw
    clear hd hm hmw
    go_enter Try.func17, Try.ntmps17
    go_wp2_with fail
    refine (H1.out _).mono ?_
    rintro e w1 ⟨a1, c1, rfl, hB1, b1, k1⟩
    obtain ⟨y0, y1, y2, y3, y4, _⟩ := row5 (box_row b1)
    have B1 := Below.on (Hb.out _) b1
    have H2 := hide' (HP.out a1 c1 (putNum xs 2) 1 w1 (hB1.mono (by omega)) k1 (by omega))
    generalize putNum xs 2 = z1 at *
    generalize z1.length = n1 at *
    clear b1 hB1
    go_wp2_with fail
    refine H2.out.mono ?_
    rintro e w2 ⟨a2', c2', rfl, hB2, b2, k2'⟩
    have B2 := Below.on B1 b2
    have H3 := hide' (HP.out a2' c2' (putNum z1 1) (-vn / 1000000) w2 (hB2.mono (by omega)) k2' (by omega))
    generalize putNum z1 1 = z2 at *
    generalize z2.length = n2 at *
    clear b2 hB2 H2
    go_wp2_with fail
    try rw [Hd.out]
    refine H3.out.mono ?_
    rintro e w3 ⟨a3', c3', rfl, hB3, b3, k3'⟩
    have B3 := Below.on B2 b3
    have H4 := hide' (HP.out a3' c3' (putNum z2 (-vn / 1000000)) (-vn % 1000000) w3 (hB3.mono (by omega)) k3' (by omega))
    generalize putNum z2 (-vn / 1000000) = z3 at *
    generalize z3.length = n3' at *
    clear b3 hB3 H3
    go_wp2_with fail
    first | rw [Hmw.out] | rw [Hm.out] | skip
    refine H4.out.mono ?_
    rintro e w4 ⟨a4', c4', rfl, hB4, b4', k4'⟩
    have B4 := Below.on B3 b4'
    have HB4 := hide' (hB4.mono (base' := w.heap.size) B3.size)
    generalize (putNum z3 (-vn % 1000000)).length = n4' at *
    clear b4' hB4 H4
    go_wp2
    go_ret
    exact ⟨_, rfl, by rw [HF.out]; exact HB4.out, B4⟩
  · have HF : Hid (bytV (d + 1) (2, vn, vs, vK, vL) xs = putNum (putNum (putNum (putNum xs 2) 0) (vn / 1000000)) (vn % 1000000)) := by show _ = _; rw [bytV_int, putI, if_neg hneg]
    have hp1 := putNum_len (putNum xs 2) 0
    have hp2 := putNum_len (putNum (putNum xs 2) 0) (vn / 1000000)
    have hm0 : 0 ≤ vn := by omega
    have hd : wrap64 (vn.tdiv 1000000) = vn / 1000000 := wd_pos vn (by omega) (by omega)
    have hm : vn.tmod 1000000 = vn % 1000000 := wm_pos vn (by omega)
    have hmw : wrap64 (vn.tmod 1000000) = vn % 1000000 := wmw_pos vn (by omega)
    have Hd := hide' hd
    have Hm := hide' hm
    have Hmw := hide' hmw
    clear hd hm hmw
    go_enter Try.func17, Try.ntmps17
    go_wp2_with fail
    refine (H1.out _).mono ?_
    rintro e w1 ⟨a1, c1, rfl, hB1, b1, k1⟩
    obtain ⟨y0, y1, y2, y3, y4, _⟩ := row5 (box_row b1)
    have B1 := Below.on (Hb.out _) b1
    have H2 := hide' (HP.out a1 c1 (putNum xs 2) 0 w1 (hB1.mono (by omega)) k1 (by omega))
    generalize putNum xs 2 = z1 at *
    generalize z1.length = n1 at *
    clear b1 hB1
    go_wp2_with fail
    refine H2.out.mono ?_
    rintro e w2 ⟨a2', c2', rfl, hB2, b2, k2'⟩
    have B2 := Below.on B1 b2
    have H3 := hide' (HP.out a2' c2' (putNum z1 0) (vn / 1000000) w2 (hB2.mono (by omega)) k2' (by omega))
    generalize putNum z1 0 = z2 at *
    generalize z2.length = n2 at *
    clear b2 hB2 H2
    go_wp2_with fail
    try rw [Hd.out]
    refine H3.out.mono ?_
    rintro e w3 ⟨a3', c3', rfl, hB3, b3, k3'⟩
    have B3 := Below.on B2 b3
    have H4 := hide' (HP.out a3' c3' (putNum z2 (vn / 1000000)) (vn % 1000000) w3 (hB3.mono (by omega)) k3' (by omega))
    generalize putNum z2 (vn / 1000000) = z3 at *
    generalize z3.length = n3' at *
    clear b3 hB3 H3
    go_wp2_with fail
    first | rw [Hmw.out] | rw [Hm.out] | skip
    refine H4.out.mono ?_
    rintro e w4 ⟨a4', c4', rfl, hB4, b4', k4'⟩
    have B4 := Below.on B3 b4'
    have HB4 := hide' (hB4.mono (base' := w.heap.size) B3.size)
    generalize (putNum z3 (vn % 1000000)).length = n4' at *
    clear b4' hB4 H4
    go_wp2
    go_ret
    exact ⟨_, rfl, by rw [HF.out]; exact HB4.out, B4⟩
end Go.Proofs.Ythgcljefmkiepaa
/-
  Cells of a list of values, of a list of texts: the same behind later calls.
-/
namespace Go.Proofs.Ythgcljefmkiepaa
open Go.RowKit
set_option linter.unusedVariables false
set_option linter.unusedSimpArgs false

theorem KSeg.none_at {R : Nat → Prop} {w : World} {b off : Nat} {n cap : Nat} {ks : List (List Int)} (h : KSeg R w (.slice (some ⟨b, off, none⟩) n cap) ks) {k : Nat} (hk : k < ks.length) {ta : Option Addr} {l tc : Nat} (hq : w.cell? ⟨b, off + k, none⟩ = some (.slice ta l tc)) : ta = none → tc = 0 := by
  obtain ⟨a', cap', h1, h2, h3, h4, h5⟩ := h
  simp only [Value.slice.injEq] at h1
  obtain ⟨rfl, _, _⟩ := h1
  rcases h5 with h0 | ⟨b, off, e, _, hc⟩
  · subst h0; simp at hk
  · simp only [Option.some.injEq, Addr.mk.injEq] at e
    obtain ⟨rfl, rfl, _⟩ := e
    obtain ⟨u, hu, a2, c2, rfl, s2, l2, m2, k2, _⟩ := hc k hk
    rw [hq] at hu
    simp at hu
    obtain ⟨rfl, _, rfl⟩ := hu
    exact k2

theorem five_same {N : Nat} {w wr wx : World} {d : Nat} {b off n cap : Nat} {l : List (Vl d)} {c : Value × Value × Value × Value × Value} (h : LSeg (fun b => b < N) w d (.slice (some ⟨b, off, none⟩) n cap) l) (hx : Below w.heap.size w wx) (hr : Below w.heap.size w wr) (hN : N ≤ w.heap.size) {k : Nat} (hk : k < l.length) (h5 : Five wr b (off + k * 5) c) : Five wx b (off + k * 5) c := by
  obtain ⟨a', cap', h1, h2, h3, h4, h5'⟩ := h
  simp only [Value.slice.injEq] at h1
  obtain ⟨rfl, _, _⟩ := h1
  rcases h5' with h0 | ⟨b', off', e, hR, hc⟩
  · subst h0; simp at hk
  · simp only [Option.some.injEq, Addr.mk.injEq] at e
    obtain ⟨rfl, rfl, _⟩ := e
    have hbr : wr.heap[b]? = w.heap[b]? := hr.block b (by omega)
    have hbx : wx.heap[b]? = w.heap[b]? := hx.block b (by omega)
    have hcc : ∀ j, wx.cell? ⟨b, j, none⟩ = wr.cell? ⟨b, j, none⟩ := fun j => World.cell?_of_block (hbx.trans hbr.symm)
    exact ⟨(hcc _).trans h5.1, (hcc _).trans h5.2.1, (hcc _).trans h5.2.2.1, (hcc _).trans h5.2.2.2.1, (hcc _).trans h5.2.2.2.2⟩

end Go.Proofs.Ythgcljefmkiepaa
