/-
  Texts that a law leans on, one behind the other; no statement is proved here.
-/
import Derived.Test.YtmdmiiikbdnioaaPk31
import Derived.Test.YtmdmiiikbdnioaaPk21
import Derived.Test.YtmdmiiikbdnioaaPk0
import Derived.Test.YtmdmiiikbdnioaaPk7
import Derived.Test.YtmdmiiikbdnioaaPk26
import Derived.Test.YtmdmiiikbdnioaaPk13
/-
  ValBytes of the program: putInt.
-/
namespace Go.Proofs.Ytmdmiiikbdnioaa
open Go.RowKit Go.Shelf
set_option linter.unusedVariables false
set_option linter.unusedSimpArgs false

theorem impl_PutNum_end (a : Option Addr) (cap : Nat) (xs : List Int) (n : Int) (w : World) (hs : Seg w a xs) (hc : a = none → cap = 0) (hl : xs.length ≤ 2097152) : Calls Try.prog 37 #[.slice a xs.length cap, .int .i64 n] w (PEnd w (putNum xs n)) :=
  (impl_PutNum_any a cap xs n w hs hc hl).mono fun e w' h => pend_of h
theorem impl_PutText_end (a b : Option Addr) (c1 c2 : Nat) (xs ts : List Int) (w : World) (ha : Seg w a xs) (hb : Seg w b ts) (ka : a = none → c1 = 0) (kb : b = none → c2 = 0) (hl : xs.length ≤ 2097152) (hl2 : ts.length ≤ 2097152) : Calls Try.prog 39 #[.slice a xs.length c1, .slice b ts.length c2] w (PEnd w (putText xs ts)) :=
  (impl_PutText_any a b c1 c2 xs ts w ha hb ka kb hl hl2).mono fun e w' h => pend_of h

set_option maxHeartbeats 1000000 in
set_option maxRecDepth 100000 in
theorem putInt_any (a : Option Addr) (cap : Nat) (xs : List Int) (vn : Int) (w : World) (hs : Seg w a xs) (ka : a = none → cap = 0) (hl : xs.length ≤ 1500000) (hlo : -1000000000000 ≤ vn) (hhi : vn ≤ 1000000000000) :
    Calls Try.prog 38 #[.slice a xs.length cap, .int .i64 vn] w (PEnd w (putI xs vn)) := by
  have HP : Hid (∀ (a1 : Option Addr) (c1 : Nat) (ys : List Int) (n : Int) (wx : World), Bts wx 0 (.slice a1 ys.length c1) ys → (a1 = none → c1 = 0) → ys.length ≤ 2000000 → Calls Try.prog 37 #[.slice a1 ys.length c1, .int .i64 n] wx (PEnd wx (putNum ys n))) := fun a1 c1 ys n wx hB k hlen => impl_PutNum_end a1 c1 ys n wx hB.seg k (by omega)
  by_cases hneg : vn < 0
  · have HF : Hid (putI xs vn = putNum (putNum (putNum xs 1) (-vn / 1000000)) (-vn % 1000000)) := by show _ = _; rw [putI, if_pos hneg]
    have H1 := hide' (impl_PutNum_end a cap xs 1 w hs ka (by omega))
    have hp1 := putNum_len xs 1
    have hp2 := putNum_len (putNum xs 1) (-vn / 1000000)
    have hm0 : 0 ≤ -vn := by omega
    have hm1 : -vn ≤ 1000000000000 := by omega
    have Hd := hide' (wd_neg vn (by omega) (by omega))
    have Hm := hide' (wm_neg vn (by omega))
    have Hmw := hide' (wmw_neg vn (by omega))
    clear hs
    go_enter Try.func38, Try.ntmps38
    go_wp2_with fail
    refine H1.out.mono ?_
    rintro e w2 ⟨a2', c2', rfl, hB2, b2, k2'⟩
    have B2 := b2
    have H3 := hide' (HP.out a2' c2' (putNum xs 1) (-vn / 1000000) w2 (hB2.mono (by omega)) k2' (by omega))
    generalize putNum xs 1 = z2 at *
    generalize z2.length = n2 at *
    clear b2 hB2 H1
    go_wp2_with fail
    try rw [Hd.out]
    refine H3.out.mono ?_
    rintro e w3 ⟨a3', c3', rfl, hB3, b3, k3'⟩
    have B3 := Below.on B2 b3
    have H4 := hide' (HP.out a3' c3' (putNum z2 (-vn / 1000000)) (-vn % 1000000) w3 (hB3.mono (by omega)) k3' (by omega))
    generalize putNum z2 (-vn / 1000000) = z3 at *
    generalize z3.length = n3' at *
    clear b3 hB3 H3
    go_wp2_with fail
    first | rw [Hmw.out] | rw [Hm.out] | skip
    refine H4.out.mono ?_
    rintro e w4 ⟨a4', c4', rfl, hB4, b4', k4'⟩
    have B4 := Below.on B3 b4'
    have HB4 := hide' (hB4.mono (base' := w.heap.size) B3.size)
    obtain ⟨z5, hz5⟩ : ∃ z5, z5 = putNum z3 (-vn % 1000000) := ⟨_, rfl⟩
    rw [← hz5] at HB4 HF
    rw [← hz5]
    clear b4' hB4 H4
    go_wp2
    go_ret
    rw [HF.out]
    exact ⟨a4', c4', by rw [hz5]; rfl, HB4.out, B4, k4'⟩
  · have HF : Hid (putI xs vn = putNum (putNum (putNum xs 0) (vn / 1000000)) (vn % 1000000)) := by show _ = _; rw [putI, if_neg hneg]
    have H1 := hide' (impl_PutNum_end a cap xs 0 w hs ka (by omega))
    have hp1 := putNum_len xs 0
    have hp2 := putNum_len (putNum xs 0) (vn / 1000000)
    have hm0 : 0 ≤ vn := by omega
    have Hd := hide' (wd_pos vn (by omega) (by omega))
    have Hm := hide' (wm_pos vn (by omega))
    have Hmw := hide' (wmw_pos vn (by omega))
    clear hs
    go_enter Try.func38, Try.ntmps38
    go_wp2_with fail
    refine H1.out.mono ?_
    rintro e w2 ⟨a2', c2', rfl, hB2, b2, k2'⟩
    have B2 := b2
    have H3 := hide' (HP.out a2' c2' (putNum xs 0) (vn / 1000000) w2 (hB2.mono (by omega)) k2' (by omega))
    generalize putNum xs 0 = z2 at *
    generalize z2.length = n2 at *
    clear b2 hB2 H1
    go_wp2_with fail
    try rw [Hd.out]
    refine H3.out.mono ?_
    rintro e w3 ⟨a3', c3', rfl, hB3, b3, k3'⟩
    have B3 := Below.on B2 b3
    have H4 := hide' (HP.out a3' c3' (putNum z2 (vn / 1000000)) (vn % 1000000) w3 (hB3.mono (by omega)) k3' (by omega))
    generalize putNum z2 (vn / 1000000) = z3 at *
    generalize z3.length = n3' at *
    clear b3 hB3 H3
    go_wp2_with fail
    first | rw [Hmw.out] | rw [Hm.out] | skip
    refine H4.out.mono ?_
    rintro e w4 ⟨a4', c4', rfl, hB4, b4', k4'⟩
    have B4 := Below.on B3 b4'
    have HB4 := hide' (hB4.mono (base' := w.heap.size) B3.size)
    obtain ⟨z5, hz5⟩ : ∃ z5, z5 = putNum z3 (vn % 1000000) := ⟨_, rfl⟩
    rw [← hz5] at HB4 HF
    rw [← hz5]
    clear b4' hB4 H4
    go_wp2
    go_ret
    rw [HF.out]
    exact ⟨a4', c4', by rw [hz5]; rfl, HB4.out, B4, k4'⟩
end Go.Proofs.Ytmdmiiikbdnioaa
