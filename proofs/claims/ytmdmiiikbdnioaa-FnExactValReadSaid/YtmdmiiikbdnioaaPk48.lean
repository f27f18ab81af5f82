/-
  Texts that a law leans on, one behind the other; no statement is proved here.
-/
import Derived.Test.YtmdmiiikbdnioaaPk47
import Derived.Test.YtmdmiiikbdnioaaPk31
import Derived.Test.YtmdmiiikbdnioaaPk0
/-
  ValRead of the specification: the value whose bytes these are. No statement is proved here.
-/
namespace Go.Proofs.Ytmdmiiikbdnioaa
open Go.RowKit
set_option linter.unusedVariables false
set_option linter.unusedSimpArgs false

theorem l2read_any (dp : Nat) : RsAt dp := by
  induction dp with
  | zero => intro xs g a cap p q deep w h hd hdp hq0 hq1; exact l2read_not 0 xs g a cap p q deep w h hd hdp hq0 hq1 (.inr rfl)
  | succ dp ih =>
    intro xs g a cap p q deep w h hd hdp hq0 hq1
    by_cases hq : q - 1 < 0
    · exact l2read_not (dp + 1) xs g a cap p q deep w h hd hdp hq0 hq1 (.inl hq)
    · by_cases hk : (getNum xs p).1 = 4 ∨ (getNum xs p).1 = 5
      · exact l2read_kids dp ih xs g a cap p q deep w h hd hdp (by omega) hq1 hk
      · exact l2read_leaf dp xs g a cap p q deep w h hd hdp (by omega) hq1 ⟨fun e => hk (.inl e), fun e => hk (.inr e)⟩

/-- What ValRead answers: the value, of the call's own, or nothing. -/
def ReadEnd (d : Nat) (v : Vl d) (ok : Bool) (w : World) (e : Ending) (w' : World) : Prop :=
  Below w.heap.size w w' ∧ ((ok = true ∧ ∃ (uk un : Int) (s2 : Option Addr) (n2 r2 : Nat) (s3 : Option Addr) (n3 r3 : Nat) (s4 : Option Addr) (n4 r4 : Nat), e = .returned (.tuple #[.agg #[.int .i64 uk, .int .i64 un, .slice s2 n2 r2, .slice s3 n3 r3, .slice s4 n4 r4], .bool true]) ∧ ∃ B, VOwn w' d (.int .i64 uk, .int .i64 un, .slice s2 n2 r2, .slice s3 n3 r3, .slice s4 n4 r4) v B ∧ ∀ b ∈ B, w.heap.size ≤ b ∧ b < w'.heap.size) ∨
    (ok = false ∧ e = .returned (.tuple #[.agg #[.int .i64 0, .int .i64 0, .slice none 0 0, .slice none 0 0, .slice none 0 0], .bool false])))

theorem readEnd_yes {d : Nat} {v : Vl d} {ok : Bool} {w wr : World} {uk un : Int} {s2 : Option Addr} {n2 r2 : Nat} {s3 : Option Addr} {n3 r3 : Nat} {s4 : Option Addr} {n4 r4 : Nat} (hok : ok = true) (hb : Below w.heap.size w wr) (hR : w.heap.size < wr.heap.size)
    (hv : ∃ B, VOwn wr d (.int .i64 uk, .int .i64 un, .slice s2 n2 r2, .slice s3 n3 r3, .slice s4 n4 r4) v B ∧ ∀ b ∈ B, w.heap.size < b ∧ b < wr.heap.size) :
    ReadEnd d v ok w (.returned (.tuple #[.agg #[.int .i64 uk, .int .i64 un, .slice s2 n2 r2, .slice s3 n3 r3, .slice s4 n4 r4], .bool true])) (set5 wr w.heap.size 0 (.int .i64 uk) (.int .i64 un) (.slice s2 n2 r2) (.slice s3 n3 r3) (.slice s4 n4 r4)) := by
  have h5 := set5_grown wr w.heap.size 0 (.int .i64 uk) (.int .i64 un) (.slice s2 n2 r2) (.slice s3 n3 r3) (.slice s4 n4 r4)
  have hz5 := set5_size wr w.heap.size 0 (.int .i64 uk) (.int .i64 un) (.slice s2 n2 r2) (.slice s3 n3 r3) (.slice s4 n4 r4)
  obtain ⟨B, ho, hB⟩ := hv
  exact ⟨hb.grown h5 (by omega) (by intro j hj; simp at hj; omega), .inl ⟨hok, _, _, _, _, _, _, _, _, _, _, _, rfl, B, VOwn.agree d ho fun b h => h5.block b (hB b h).2 (by have := (hB b h).1; simp; omega), fun b h => by have := hB b h; omega⟩⟩
theorem readEnd_no {d : Nat} {v : Vl d} {ok : Bool} {w wr : World} (hok : ok = false) (hb : Below w.heap.size w wr) (hR : w.heap.size < wr.heap.size) :
    ReadEnd d v ok w (.returned (.tuple #[.agg #[.int .i64 0, .int .i64 0, .slice none 0 0, .slice none 0 0, .slice none 0 0], .bool false])) (set5 wr w.heap.size 0 (.int .i64 0) (.int .i64 0) (.slice none 0 0) (.slice none 0 0) (.slice none 0 0)) :=
  ⟨hb.grown (set5_grown wr w.heap.size 0 (.int .i64 0) (.int .i64 0) (.slice none 0 0) (.slice none 0 0) (.slice none 0 0)) (by omega) (by intro j hj; simp at hj; omega), .inr ⟨hok, rfl⟩⟩

set_option maxHeartbeats 12800000 in
set_option maxRecDepth 100000 in
theorem spec_ValRead_any (a : Option Addr) (cap : Nat) (xs : List Int) (w : World) (ha : Seg w a xs) (hc : xs.length ≤ cap) (hm : cap ≤ maxLen) (hl : xs.length ≤ 1048576) (hab : ∀ x, a = some x → xs ≠ [] → x.block < w.heap.size) :
    Calls Try.prog 4 #[.slice a xs.length cap] w (ReadEnd 6 (rdS xs).1 (isS xs) w) := by
  have hiff := isS_iff xs
  obtain ⟨hb1, hb2⟩ := two_boxes w (.cells #[.int .i64 0, .int .i64 0, .slice none 0 0, .slice none 0 0, .slice none 0 0] 26) (.cells #[.slice a xs.length cap, .int .i64 0, .int .i64 40] 37)
  have hsz := size2 w (.cells #[.int .i64 0, .int .i64 0, .slice none 0 0, .slice none 0 0, .slice none 0 0] 26) (.cells #[.slice a xs.length cap, .int .i64 0, .int .i64 40] 37)
  have hbw : Below w.heap.size w ((w.alloc (.cells #[.int .i64 0, .int .i64 0, .slice none 0 0, .slice none 0 0, .slice none 0 0] 26)).alloc (.cells #[.slice a xs.length cap, .int .i64 0, .int .i64 40] 37)) := ((Below.refl _ _).alloc (Nat.le_refl _) _).alloc (by simp) _
  have HC0 : Hid (RdC 37 xs ((w.alloc (.cells #[.int .i64 0, .int .i64 0, .slice none 0 0, .slice none 0 0, .slice none 0 0] 26)).alloc (.cells #[.slice a xs.length cap, .int .i64 0, .int .i64 40] 37)) (w.heap.size + 1) a cap 0 40) := hide' ⟨hb2, ha.grow hbw, fun x hx he => by have := hab x hx he; omega, hc, hm, hl, by omega, by omega⟩
  have HB0 := hide' hbw
  have HR0 := hide' hb1
  have HZ0 := hide' hsz
  clear hb1 hb2 hsz hbw ha hab
  go_enter Try.func4, Try.ntmps4
  go_upto_region 2 with fail
  generalize (w.alloc (.cells #[.int .i64 0, .int .i64 0, .slice none 0 0, .slice none 0 0, .slice none 0 0] 26)).alloc (.cells #[.slice a xs.length cap, .int .i64 0, .int .i64 40] 37) = w0 at *
  have HL := hide' (l2read_any 5 xs (w.heap.size + 1) a cap 0 40 1 w0 HC0.out (by omega) (by omega) (by omega) (by omega))
  rw [show rdV xs 5 0 40 = rdS xs from rfl] at HL
  generalize rdS xs = r at *
  obtain ⟨v, at_, left⟩ := r
  simp only at HL hiff
  go_wp2_with fail
  refine HL.out.mono ?_
  rintro e w2 ⟨uk, un, s2, n2, r2, s3, n3, r3, s4, n4, r4, rfl, ⟨Bv, hv, hBv⟩, hc2, hg2⟩
  have HR2 := hide' ((hg2.block w.heap.size (by have := HZ0.out; omega) (by simp)).trans HR0.out)
  have hz2 : w0.heap.size ≤ w2.heap.size := hg2.size
  have HB2 : Hid (Below w.heap.size w w2) := hide' (HB0.out.grown hg2 (by have := HZ0.out; omega) (by intro j hj; simp at hj; omega))
  go_upto_region 3 with fail
  have HV3 : Hid (VOwn (w2.alloc (.cells #[.int .i64 uk, .int .i64 un, .slice s2 n2 r2, .slice s3 n3 r3, .slice s4 n4 r4] 26)) 6 (.int .i64 uk, .int .i64 un, .slice s2 n2 r2, .slice s3 n3 r3, .slice s4 n4 r4) v Bv ∧ ∀ b ∈ Bv, w.heap.size < b ∧ b < (w2.alloc (.cells #[.int .i64 uk, .int .i64 un, .slice s2 n2 r2, .slice s3 n3 r3, .slice s4 n4 r4] 26)).heap.size) := hide' ⟨VOwn.agree _ hv fun b hb => Below.heap_alloc w2 _ b (hBv b hb).2, fun b hb => by have h1 := hBv b hb; have h2 := HZ0.out; simp; omega⟩
  have HP3 := hide' (heap_alloc_new w2 (.cells #[.int .i64 uk, .int .i64 un, .slice s2 n2 r2, .slice s3 n3 r3, .slice s4 n4 r4] 26))
  have HR3 := hide' ((Below.heap_alloc w2 (.cells #[.int .i64 uk, .int .i64 un, .slice s2 n2 r2, .slice s3 n3 r3, .slice s4 n4 r4] 26) w.heap.size (by have := HZ0.out; omega)).trans HR2.out)
  have HB3 := hide' (HB2.out.alloc HB2.out.size (.cells #[.int .i64 uk, .int .i64 un, .slice s2 n2 r2, .slice s3 n3 r3, .slice s4 n4 r4] 26))
  have HC3 := hide' (hc2.below ((Below.refl _ w2).alloc (Nat.le_refl _) (.cells #[.int .i64 uk, .int .i64 un, .slice s2 n2 r2, .slice s3 n3 r3, .slice s4 n4 r4] 26)))
  have HZ3 : Hid (w.heap.size < (w2.alloc (.cells #[.int .i64 uk, .int .i64 un, .slice s2 n2 r2, .slice s3 n3 r3, .slice s4 n4 r4] 26)).heap.size) := hide' (by have := HZ0.out; simp; omega)
  have HS3 := hide' (VSeg.mono (R' := fun b => b < (w2.alloc (.cells #[.int .i64 uk, .int .i64 un, .slice s2 n2 r2, .slice s3 n3 r3, .slice s4 n4 r4] 26)).heap.size) (fun b hb => (HV3.out.2 b hb).2) _ (VOwn.seg _ HV3.out.1))
  clear hv hBv hc2 hg2 HR2 HB2 HC0 HB0 HR0 HL
  generalize w2.alloc (.cells #[.int .i64 uk, .int .i64 un, .slice s2 n2 r2, .slice s3 n3 r3, .slice s4 n4 r4] 26) = w3 at *
  generalize w2.heap.size = gv at *
  have HK : Hid (∀ wx, Below w3.heap.size w3 wx → Calls Try.prog 13 #[.agg #[.int .i64 uk, .int .i64 un, .slice s2 n2 r2, .slice s3 n3 r3, .slice s4 n4 r4]] wx fun e w' => e = .returned (.bool (okB 6 v)) ∧ Below wx.heap.size wx w') := hide' (fun wx hb => spec_ValOk_any 6 w3.heap.size _ _ _ _ _ v wx (VSeg.agree (agree_below hb) _ HS3.out) hb.size)
  have HP : Hid (okB 6 v = true → ∀ wx, Below w3.heap.size w3 wx → Calls Try.prog 14 #[.slice none 0 0, .agg #[.int .i64 uk, .int .i64 un, .slice s2 n2 r2, .slice s3 n3 r3, .slice s4 n4 r4]] wx fun e w' => ∃ a n c, e = .returned (.slice a n c) ∧ Bts w' wx.heap.size (.slice a n c) (bytV 6 v []) ∧ Below wx.heap.size wx w') := hide' (fun hok wx hb => by
    obtain ⟨h1, h2⟩ := okB_parts hok
    refine (l2put_any 6 w3.heap.size none 0 [] (.int .i64 uk, .int .i64 un, .slice s2 n2 r2, .slice s3 n3 r3, .slice s4 n4 r4) v 1 wx (VSeg.agree (agree_below hb) _ HS3.out) hb.size ⟨by simp, .inl rfl⟩ (fun _ => rfl) h1 (by simp; omega)).mono ?_
    rintro e w' ⟨u, rfl, hB, hbw⟩
    obtain ⟨a, c, rfl, _⟩ := hB.shape
    exact ⟨a, _, c, rfl, hB, hbw⟩)
  have hxb := HC3.out.2.1.1
  have HX : Hid (∀ wx, Below w3.heap.size w3 wx → (convert 22 9 (.slice a xs.length cap)).run Try.prog wx = .ok (.string (strOf xs)) wx) := hide' (fun wx hb => conv_seg cap (HC3.out.below hb).2.1)
  clear HS3
  have hB3 : Hid (Below w3.heap.size w3 w3) := hide' (Below.refl _ _)
  have HU : Hid (∀ wx, Below w3.heap.size w3 wx → Below w.heap.size w wx ∧ w.heap.size < wx.heap.size ∧ wx.heap[w.heap.size]? = some (.cells #[.int .i64 0, .int .i64 0, .slice none 0 0, .slice none 0 0, .slice none 0 0] 26) ∧ wx.heap[gv]? = some (.cells #[.int .i64 uk, .int .i64 un, .slice s2 n2 r2, .slice s3 n3 r3, .slice s4 n4 r4] 26) ∧ ∃ B, VOwn wx 6 (.int .i64 uk, .int .i64 un, .slice s2 n2 r2, .slice s3 n3 r3, .slice s4 n4 r4) v B ∧ ∀ b ∈ B, w.heap.size < b ∧ b < wx.heap.size) := hide' (fun wx hb => ⟨HB3.out.trans (hb.mono HB3.out.size), Nat.lt_of_lt_of_le HZ3.out hb.size, (hb.block _ HZ3.out).trans HR3.out, (hb.block _ (Array.getElem?_eq_some_iff.1 HP3.out).1).trans HP3.out, Bv, VOwn.agree _ HV3.out.1 fun b h => hb.block b (HV3.out.2 b h).2, fun b h => ⟨(HV3.out.2 b h).1, Nat.lt_of_lt_of_le (HV3.out.2 b h).2 hb.size⟩⟩)
  have HCx : Hid (∀ wx, Below w3.heap.size w3 wx → wx.cell? ⟨w.heap.size + 1, 1, none⟩ = some (.int .i64 at_)) := hide' (fun wx hb => (row3r (HC3.out.below hb).1).2.1)
  clear HV3 HP3 HR3 HB3 HC3 HZ3 HZ0
  generalize hxl : xs.length = nl at *
  have Hxl := hide' hxl
  clear hxl
  by_cases hat : at_ = (nl : Int)
  · have hat' : (at_ != (nl : Int)) = false := by simp [hat]
    cases hok : okB 6 v with
    | false =>
      have HNO : Hid (¬ (at_ = (nl : Int) ∧ okB 6 v = true ∧ bytV 6 v [] = xs)) := hide' (by rw [hok]; simp)
      rw [hok] at HK
      clear HP HX hok
      refine wp_region_held_drew (S := (fun wx => Below w3.heap.size w3 wx)) (by kernel_rfl) hB3.out.drew (fun hHeld => ?_)
      refine take_yes (i := 0) 11 (v := ?_) rfl rfl (by kernel_rfl) (by kernel_rfl) (by kernel_rfl) (fun _ _ _ h => h) (by kernel_rfl) hHeld ?_ ?_
      rotate_left
      focus (intro w hSw; (try dsimp only at hSw); go_simp; (try with_reducible rfl))
      (try simp only [Act.put, List.setIfInBounds_toArray, List.set_cons_zero, List.set_cons_succ])
      refine take_yes (i := 1) 12 (v := ?_) rfl rfl (by kernel_rfl) (by kernel_rfl) (by kernel_rfl) (fun _ _ _ h => h) (by kernel_rfl) hHeld ?_ ?_
      rotate_left
      focus (intro w hSw; (try dsimp only at hSw); go_simp; (try with_reducible rfl))
      (try simp only [Act.put, List.setIfInBounds_toArray, List.set_cons_zero, List.set_cons_succ])
      refine take_yes (i := 2) 13 (v := ?_) rfl rfl (by kernel_rfl) (by kernel_rfl) (by kernel_rfl) (fun _ _ _ h => h) (by kernel_rfl) hHeld ?_ ?_
      rotate_left
      focus (intro w hSw; (try dsimp only at hSw); go_simp; (try with_reducible rfl))
      (try simp only [Act.put, List.setIfInBounds_toArray, List.set_cons_zero, List.set_cons_succ])
      refine take_yes (i := 3) 14 (v := ?_) rfl rfl (by kernel_rfl) (by kernel_rfl) (by kernel_rfl) (fun _ _ _ h => h) (by kernel_rfl) hHeld ?_ ?_
      rotate_left
      focus (intro w hSw; have zc := HCx.out w hSw; (try dsimp only at hSw); go_simp; (try with_reducible rfl))
      (try simp only [Act.put, List.setIfInBounds_toArray, List.set_cons_zero, List.set_cons_succ])
      refine take_yes (i := 4) 15 (v := ?_) rfl rfl (by kernel_rfl) (by kernel_rfl) (by kernel_rfl) (fun _ _ _ h => h) (by kernel_rfl) hHeld ?_ ?_
      rotate_left
      focus (intro w hSw; (try dsimp only at hSw); go_simp; (try with_reducible rfl))
      (try simp only [Act.put, List.setIfInBounds_toArray, List.set_cons_zero, List.set_cons_succ])
      refine take_yes (i := 5) 16 (v := ?_) rfl rfl (by kernel_rfl) (by kernel_rfl) (by kernel_rfl) (fun _ _ _ h => h) (by kernel_rfl) hHeld ?_ ?_
      rotate_left
      focus (intro w hSw; (try dsimp only at hSw); go_simp; (try with_reducible rfl))
      (try simp only [Act.put, List.setIfInBounds_toArray, List.set_cons_zero, List.set_cons_succ])
      refine take_yes (i := 6) 17 (v := ?_) rfl rfl (by kernel_rfl) (by kernel_rfl) (by kernel_rfl) (fun _ _ _ h => h) (by kernel_rfl) hHeld ?_ ?_
      rotate_left
      focus (intro w hSw; (try dsimp only at hSw); go_simp; (try with_reducible rfl))
      (try simp only [Act.put, List.setIfInBounds_toArray, List.set_cons_zero, List.set_cons_succ])
      refine take_yes (i := 7) 18 (v := ?_) rfl rfl (by kernel_rfl) (by kernel_rfl) (by kernel_rfl) (fun _ _ _ h => h) (by kernel_rfl) hHeld ?_ ?_
      rotate_left
      focus (intro w hSw; (try dsimp only at hSw); go_simp; (try with_reducible rfl))
      (try simp only [Act.put, List.setIfInBounds_toArray, List.set_cons_zero, List.set_cons_succ])
      refine take_yes (i := 8) 19 (v := ?_) rfl rfl (by kernel_rfl) (by kernel_rfl) (by kernel_rfl) (fun _ _ _ h => h) (by kernel_rfl) hHeld ?_ ?_
      rotate_left
      focus (intro w hSw; obtain ⟨z0, z1, z2, z3, z4, -⟩ := row5 (HU.out w hSw).2.2.2.1; (try dsimp only at hSw); go_simp; (try with_reducible rfl))
      (try simp only [Act.put, List.setIfInBounds_toArray, List.set_cons_zero, List.set_cons_succ])
      refine wpAnyH_ready (rs := [9]) (by kernel_rfl) (by simp) ?_
      refine AllReadyH.cons rfl (fun K hK => ?_) AllReadyH.nil
      go_simp
      go_at_call 13
      refine (HK.out _ hHeld).mono ?_
      rintro e V1 ⟨rfl, hb⟩
      have hS := Below.on hHeld hb
      go_wp2_with fail
      refine hK.out _ _ hS (fun hHeld => ?_)
      clear hK
      (try simp only [Act.put, List.setIfInBounds_toArray, List.set_cons_zero, List.set_cons_succ])
      refine take_yes (i := 10) 21 (v := ?_) rfl rfl (by kernel_rfl) (by kernel_rfl) (by kernel_rfl) (fun _ _ _ h => h) (by kernel_rfl) hHeld ?_ ?_
      rotate_left
      focus (intro w hSw; (try dsimp only at hSw); go_simp; (try with_reducible rfl))
      (try simp only [Act.put, List.setIfInBounds_toArray, List.set_cons_zero, List.set_cons_succ])
      refine take_yes (i := 11) 22 (v := ?_) rfl rfl (by kernel_rfl) (by kernel_rfl) (by kernel_rfl) (fun _ _ _ h => h) (by kernel_rfl) hHeld ?_ ?_
      rotate_left
      focus (intro w hSw; (try dsimp only at hSw); go_simp; (try with_reducible rfl))
      (try simp only [Act.put, List.setIfInBounds_toArray, List.set_cons_zero, List.set_cons_succ])
      refine take_yes (i := 12) 23 (v := ?_) rfl rfl (by kernel_rfl) (by kernel_rfl) (by kernel_rfl) (fun _ _ _ h => h) (by kernel_rfl) hHeld ?_ ?_
      rotate_left
      focus (intro w hSw; (try dsimp only at hSw); go_simp; (try with_reducible rfl))
      (try simp only [Act.put, List.setIfInBounds_toArray, List.set_cons_zero, List.set_cons_succ])
      refine take_not (i := 13) 24 rfl rfl (by kernel_rfl) (by kernel_rfl) (by kernel_rfl) (fun _ _ _ h => h) (by kernel_rfl) hHeld ?_
      (try simp only [Act.put, List.setIfInBounds_toArray, List.set_cons_zero, List.set_cons_succ])
      refine take_not (i := 14) 25 rfl rfl (by kernel_rfl) (by kernel_rfl) (by kernel_rfl) (fun _ _ _ h => h) (by kernel_rfl) hHeld ?_
      (try simp only [Act.put, List.setIfInBounds_toArray, List.set_cons_zero, List.set_cons_succ])
      refine take_not (i := 15) 26 rfl rfl (by kernel_rfl) (by kernel_rfl) (by kernel_rfl) (fun _ _ _ h => h) (by kernel_rfl) hHeld ?_
      (try simp only [Act.put, List.setIfInBounds_toArray, List.set_cons_zero, List.set_cons_succ])
      refine take_not (i := 16) 27 rfl rfl (by kernel_rfl) (by kernel_rfl) (by kernel_rfl) (fun _ _ _ h => h) (by kernel_rfl) hHeld ?_
      (try simp only [Act.put, List.setIfInBounds_toArray, List.set_cons_zero, List.set_cons_succ])
      refine take_not (i := 17) 28 rfl rfl (by kernel_rfl) (by kernel_rfl) (by kernel_rfl) (fun _ _ _ h => h) (by kernel_rfl) hHeld ?_
      (try simp only [Act.put, List.setIfInBounds_toArray, List.set_cons_zero, List.set_cons_succ])
      refine take_not (i := 18) 29 rfl rfl (by kernel_rfl) (by kernel_rfl) (by kernel_rfl) (fun _ _ _ h => h) (by kernel_rfl) hHeld ?_
      (try simp only [Act.put, List.setIfInBounds_toArray, List.set_cons_zero, List.set_cons_succ])
      refine take_yes (i := 19) 30 (v := ?_) rfl rfl (by kernel_rfl) (by kernel_rfl) (by kernel_rfl) (fun _ _ _ h => h) (by kernel_rfl) hHeld ?_ ?_
      rotate_left
      focus (intro w hSw; (try dsimp only at hSw); go_simp; (try with_reducible rfl))
      (try simp only [Act.put, List.setIfInBounds_toArray, List.set_cons_zero, List.set_cons_succ])
      refine wpAnyH_done (by kernel_rfl) ?_ _
      obtain ⟨hbE, hzE, hrE, hpE, hvE⟩ := HU.out _ hHeld
      obtain ⟨o0, o1, o2, o3, o4, of⟩ := row5 hrE
      have f0 := of 0; have f1 := of 1; have f2 := of 2; have f3 := of 3; have f4 := of 4; clear of
      have HE := hide' (And.intro hbE (And.intro hzE (And.intro hrE hvE)))
      clear hbE hzE hrE hpE hvE
      go_wp2_with fail
      have hfin := row5 (set5_heap (j := 0) (.int .i64 0) (.int .i64 0) (.slice none 0 0) (.slice none 0 0) (.slice none 0 0) HE.out.2.2.1)
      simp only [set5, Nat.zero_add] at hfin
      obtain ⟨x0, x1, x2, x3, x4, _⟩ := hfin
      refine bodyPost_ret (v := .tuple #[.agg #[.int .i64 0, .int .i64 0, .slice none 0 0, .slice none 0 0, .slice none 0 0], .bool false]) (by simp [results, Try.results4, go_sem, x0, x1, x2, x3, x4]) rfl ?_
      exact readEnd_no (by rw [← Bool.not_eq_true, hiff]; exact HNO.out) HE.out.1 HE.out.2.1
    | true =>
      have HP2 := hide' (HP.out hok)
      rw [hok] at HK
      have Hxb := hide' hxb
      by_cases hbx : bytV 6 v [] = xs
      · have HOK : Hid (at_ = (nl : Int) ∧ okB 6 v = true ∧ bytV 6 v [] = xs) := hide' ⟨hat, hok, hbx⟩
        have Hbx := hide' hbx
        clear HP hok hbx hxb
        refine wp_region_held_drew (S := (fun wx => Below w3.heap.size w3 wx)) (by kernel_rfl) hB3.out.drew (fun hHeld => ?_)
        refine take_yes (i := 0) 11 (v := ?_) rfl rfl (by kernel_rfl) (by kernel_rfl) (by kernel_rfl) (fun _ _ _ h => h) (by kernel_rfl) hHeld ?_ ?_
        rotate_left
        focus (intro w hSw; (try dsimp only at hSw); go_simp; (try with_reducible rfl))
        (try simp only [Act.put, List.setIfInBounds_toArray, List.set_cons_zero, List.set_cons_succ])
        refine take_yes (i := 1) 12 (v := ?_) rfl rfl (by kernel_rfl) (by kernel_rfl) (by kernel_rfl) (fun _ _ _ h => h) (by kernel_rfl) hHeld ?_ ?_
        rotate_left
        focus (intro w hSw; (try dsimp only at hSw); go_simp; (try with_reducible rfl))
        (try simp only [Act.put, List.setIfInBounds_toArray, List.set_cons_zero, List.set_cons_succ])
        refine take_yes (i := 2) 13 (v := ?_) rfl rfl (by kernel_rfl) (by kernel_rfl) (by kernel_rfl) (fun _ _ _ h => h) (by kernel_rfl) hHeld ?_ ?_
        rotate_left
        focus (intro w hSw; (try dsimp only at hSw); go_simp; (try with_reducible rfl))
        (try simp only [Act.put, List.setIfInBounds_toArray, List.set_cons_zero, List.set_cons_succ])
        refine take_yes (i := 3) 14 (v := ?_) rfl rfl (by kernel_rfl) (by kernel_rfl) (by kernel_rfl) (fun _ _ _ h => h) (by kernel_rfl) hHeld ?_ ?_
        rotate_left
        focus (intro w hSw; have zc := HCx.out w hSw; (try dsimp only at hSw); go_simp; (try with_reducible rfl))
        (try simp only [Act.put, List.setIfInBounds_toArray, List.set_cons_zero, List.set_cons_succ])
        refine take_yes (i := 4) 15 (v := ?_) rfl rfl (by kernel_rfl) (by kernel_rfl) (by kernel_rfl) (fun _ _ _ h => h) (by kernel_rfl) hHeld ?_ ?_
        rotate_left
        focus (intro w hSw; (try dsimp only at hSw); go_simp; (try with_reducible rfl))
        (try simp only [Act.put, List.setIfInBounds_toArray, List.set_cons_zero, List.set_cons_succ])
        refine take_yes (i := 5) 16 (v := ?_) rfl rfl (by kernel_rfl) (by kernel_rfl) (by kernel_rfl) (fun _ _ _ h => h) (by kernel_rfl) hHeld ?_ ?_
        rotate_left
        focus (intro w hSw; (try dsimp only at hSw); go_simp; (try with_reducible rfl))
        (try simp only [Act.put, List.setIfInBounds_toArray, List.set_cons_zero, List.set_cons_succ])
        refine take_yes (i := 6) 17 (v := ?_) rfl rfl (by kernel_rfl) (by kernel_rfl) (by kernel_rfl) (fun _ _ _ h => h) (by kernel_rfl) hHeld ?_ ?_
        rotate_left
        focus (intro w hSw; (try dsimp only at hSw); go_simp; (try with_reducible rfl))
        (try simp only [Act.put, List.setIfInBounds_toArray, List.set_cons_zero, List.set_cons_succ])
        refine take_yes (i := 7) 18 (v := ?_) rfl rfl (by kernel_rfl) (by kernel_rfl) (by kernel_rfl) (fun _ _ _ h => h) (by kernel_rfl) hHeld ?_ ?_
        rotate_left
        focus (intro w hSw; (try dsimp only at hSw); go_simp; (try with_reducible rfl))
        (try simp only [Act.put, List.setIfInBounds_toArray, List.set_cons_zero, List.set_cons_succ])
        refine take_yes (i := 8) 19 (v := ?_) rfl rfl (by kernel_rfl) (by kernel_rfl) (by kernel_rfl) (fun _ _ _ h => h) (by kernel_rfl) hHeld ?_ ?_
        rotate_left
        focus (intro w hSw; obtain ⟨z0, z1, z2, z3, z4, -⟩ := row5 (HU.out w hSw).2.2.2.1; (try dsimp only at hSw); go_simp; (try with_reducible rfl))
        (try simp only [Act.put, List.setIfInBounds_toArray, List.set_cons_zero, List.set_cons_succ])
        refine wpAnyH_ready (rs := [9]) (by kernel_rfl) (by simp) ?_
        refine AllReadyH.cons rfl (fun K hK => ?_) AllReadyH.nil
        go_simp
        go_at_call 13
        refine (HK.out _ hHeld).mono ?_
        rintro e V1 ⟨rfl, hb⟩
        have hS := Below.on hHeld hb
        go_wp2_with fail
        refine hK.out _ _ hS (fun hHeld => ?_)
        clear hK
        (try simp only [Act.put, List.setIfInBounds_toArray, List.set_cons_zero, List.set_cons_succ])
        refine take_yes (i := 10) 21 (v := ?_) rfl rfl (by kernel_rfl) (by kernel_rfl) (by kernel_rfl) (fun _ _ _ h => h) (by kernel_rfl) hHeld ?_ ?_
        rotate_left
        focus (intro w hSw; (try dsimp only at hSw); go_simp; (try with_reducible rfl))
        (try simp only [Act.put, List.setIfInBounds_toArray, List.set_cons_zero, List.set_cons_succ])
        refine take_yes (i := 11) 22 (v := ?_) rfl rfl (by kernel_rfl) (by kernel_rfl) (by kernel_rfl) (fun _ _ _ h => h) (by kernel_rfl) hHeld ?_ ?_
        rotate_left
        focus (intro w hSw; (try dsimp only at hSw); go_simp; (try with_reducible rfl))
        (try simp only [Act.put, List.setIfInBounds_toArray, List.set_cons_zero, List.set_cons_succ])
        refine take_yes (i := 12) 23 (v := ?_) rfl rfl (by kernel_rfl) (by kernel_rfl) (by kernel_rfl) (fun _ _ _ h => h) (by kernel_rfl) hHeld ?_ ?_
        rotate_left
        focus (intro w hSw; (try dsimp only at hSw); go_simp; (try with_reducible rfl))
        (try simp only [Act.put, List.setIfInBounds_toArray, List.set_cons_zero, List.set_cons_succ])
        refine take_yes (i := 13) 24 (v := ?_) rfl rfl (by kernel_rfl) (by kernel_rfl) (by kernel_rfl) (fun _ _ _ h => h) (by kernel_rfl) hHeld ?_ ?_
        rotate_left
        focus (intro w hSw; obtain ⟨z0, z1, z2, z3, z4, -⟩ := row5 (HU.out w hSw).2.2.2.1; (try dsimp only at hSw); go_simp; (try with_reducible rfl))
        (try simp only [Act.put, List.setIfInBounds_toArray, List.set_cons_zero, List.set_cons_succ])
        refine take_yes (i := 16) 27 (v := ?_) rfl rfl (by kernel_rfl) (by kernel_rfl) (by kernel_rfl) (fun _ _ _ h => h) (by kernel_rfl) hHeld ?_ ?_
        rotate_left
        focus (intro w hSw; (try dsimp only at hSw); go_simp; (try with_reducible rfl))
        (try simp only [Act.put, List.setIfInBounds_toArray, List.set_cons_zero, List.set_cons_succ])
        refine take_yes (i := 17) 28 (v := ?_) rfl rfl (by kernel_rfl) (by kernel_rfl) (by kernel_rfl) (fun _ _ _ h => h) (by kernel_rfl) hHeld ?_ ?_
        rotate_left
        focus (intro w hSw; have zx := HX.out w hSw; (try dsimp only at hSw); go_simp; (try with_reducible rfl))
        (try simp only [Act.put, List.setIfInBounds_toArray, List.set_cons_zero, List.set_cons_succ])
        refine wpAnyH_ready (rs := [14]) (by kernel_rfl) (by simp) ?_
        refine AllReadyH.cons rfl (fun K hK => ?_) AllReadyH.nil
        go_simp
        go_at_call 14
        refine (HP2.out _ hHeld).mono ?_
        rintro e V2 ⟨b2, l2, c2, rfl, hBt, hb⟩
        have hS := Below.on hHeld hb
        have hq : (convert 22 9 (.slice b2 l2 c2)).run Try.prog V2 = .ok (.string (strOf (bytV 6 v []))) V2 := by obtain ⟨_, _, hsh, hsg, _⟩ := hBt.shape; cases hsh; exact conv_seg _ hsg
        have hse : ((strOf (bytV 6 v [])).toList == (strOf xs).toList) = true := by rw [strOf_eq hBt.1 Hxb.out]; simp [Hbx.out]
        generalize strOf (bytV 6 v []) = s1 at *
        generalize strOf xs = sx at *
        clear hBt hb
        go_wp2_with fail
        refine hK.out _ _ hS (fun hHeld => ?_)
        clear hK
        (try simp only [Act.put, List.setIfInBounds_toArray, List.set_cons_zero, List.set_cons_succ])
        refine wpAnyH_ready (rs := [15]) (by kernel_rfl) (by simp) ?_
        refine AllReadyH.cons rfl (fun K hK => ?_) AllReadyH.nil
        go_simp
        have hS := hHeld
        go_wp2_with fail
        refine hK.out _ _ hS (fun hHeld => ?_)
        clear hK
        (try simp only [Act.put, List.setIfInBounds_toArray, List.set_cons_zero, List.set_cons_succ])
        refine take_yes (i := 18) 29 (v := ?_) rfl rfl (by kernel_rfl) (by kernel_rfl) (by kernel_rfl) (fun _ _ _ h => h) (by kernel_rfl) hHeld ?_ ?_
        rotate_left
        focus (intro w hSw; (try dsimp only at hSw); go_simp; (try with_reducible rfl))
        (try simp only [Act.put, List.setIfInBounds_toArray, List.set_cons_zero, List.set_cons_succ])
        refine take_yes (i := 19) 30 (v := ?_) rfl rfl (by kernel_rfl) (by kernel_rfl) (by kernel_rfl) (fun _ _ _ h => h) (by kernel_rfl) hHeld ?_ ?_
        rotate_left
        focus (intro w hSw; (try dsimp only at hSw); go_simp; (try with_reducible rfl))
        (try simp only [Act.put, List.setIfInBounds_toArray, List.set_cons_zero, List.set_cons_succ])
        refine wpAnyH_done (by kernel_rfl) ?_ _
        obtain ⟨hbE, hzE, hrE, hpE, hvE⟩ := HU.out _ hHeld
        obtain ⟨o0, o1, o2, o3, o4, of⟩ := row5 hrE
        have f0 := of 0; have f1 := of 1; have f2 := of 2; have f3 := of 3; have f4 := of 4; clear of
        obtain ⟨c0, c1, c2, c3, c4, -⟩ := row5 hpE
        have HE := hide' (And.intro hbE (And.intro hzE (And.intro hrE hvE)))
        clear hbE hzE hrE hpE hvE
        go_wp2_with fail
        have hfin := row5 (set5_heap (j := 0) (.int .i64 uk) (.int .i64 un) (.slice s2 n2 r2) (.slice s3 n3 r3) (.slice s4 n4 r4) HE.out.2.2.1)
        simp only [set5, Nat.zero_add] at hfin
        obtain ⟨x0, x1, x2, x3, x4, _⟩ := hfin
        refine bodyPost_ret (v := .tuple #[.agg #[.int .i64 uk, .int .i64 un, .slice s2 n2 r2, .slice s3 n3 r3, .slice s4 n4 r4], .bool true]) (by simp [results, Try.results4, go_sem, x0, x1, x2, x3, x4]) rfl ?_
        exact readEnd_yes (hiff.2 HOK.out) HE.out.1 HE.out.2.1 HE.out.2.2.2
      · have HNO : Hid (¬ (at_ = (nl : Int) ∧ okB 6 v = true ∧ bytV 6 v [] = xs)) := hide' (fun h => hbx h.2.2)
        have Hbx := hide' hbx
        clear HP hok hbx hxb
        refine wp_region_held_drew (S := (fun wx => Below w3.heap.size w3 wx)) (by kernel_rfl) hB3.out.drew (fun hHeld => ?_)
        refine take_yes (i := 0) 11 (v := ?_) rfl rfl (by kernel_rfl) (by kernel_rfl) (by kernel_rfl) (fun _ _ _ h => h) (by kernel_rfl) hHeld ?_ ?_
        rotate_left
        focus (intro w hSw; (try dsimp only at hSw); go_simp; (try with_reducible rfl))
        (try simp only [Act.put, List.setIfInBounds_toArray, List.set_cons_zero, List.set_cons_succ])
        refine take_yes (i := 1) 12 (v := ?_) rfl rfl (by kernel_rfl) (by kernel_rfl) (by kernel_rfl) (fun _ _ _ h => h) (by kernel_rfl) hHeld ?_ ?_
        rotate_left
        focus (intro w hSw; (try dsimp only at hSw); go_simp; (try with_reducible rfl))
        (try simp only [Act.put, List.setIfInBounds_toArray, List.set_cons_zero, List.set_cons_succ])
        refine take_yes (i := 2) 13 (v := ?_) rfl rfl (by kernel_rfl) (by kernel_rfl) (by kernel_rfl) (fun _ _ _ h => h) (by kernel_rfl) hHeld ?_ ?_
        rotate_left
        focus (intro w hSw; (try dsimp only at hSw); go_simp; (try with_reducible rfl))
        (try simp only [Act.put, List.setIfInBounds_toArray, List.set_cons_zero, List.set_cons_succ])
        refine take_yes (i := 3) 14 (v := ?_) rfl rfl (by kernel_rfl) (by kernel_rfl) (by kernel_rfl) (fun _ _ _ h => h) (by kernel_rfl) hHeld ?_ ?_
        rotate_left
        focus (intro w hSw; have zc := HCx.out w hSw; (try dsimp only at hSw); go_simp; (try with_reducible rfl))
        (try simp only [Act.put, List.setIfInBounds_toArray, List.set_cons_zero, List.set_cons_succ])
        refine take_yes (i := 4) 15 (v := ?_) rfl rfl (by kernel_rfl) (by kernel_rfl) (by kernel_rfl) (fun _ _ _ h => h) (by kernel_rfl) hHeld ?_ ?_
        rotate_left
        focus (intro w hSw; (try dsimp only at hSw); go_simp; (try with_reducible rfl))
        (try simp only [Act.put, List.setIfInBounds_toArray, List.set_cons_zero, List.set_cons_succ])
        refine take_yes (i := 5) 16 (v := ?_) rfl rfl (by kernel_rfl) (by kernel_rfl) (by kernel_rfl) (fun _ _ _ h => h) (by kernel_rfl) hHeld ?_ ?_
        rotate_left
        focus (intro w hSw; (try dsimp only at hSw); go_simp; (try with_reducible rfl))
        (try simp only [Act.put, List.setIfInBounds_toArray, List.set_cons_zero, List.set_cons_succ])
        refine take_yes (i := 6) 17 (v := ?_) rfl rfl (by kernel_rfl) (by kernel_rfl) (by kernel_rfl) (fun _ _ _ h => h) (by kernel_rfl) hHeld ?_ ?_
        rotate_left
        focus (intro w hSw; (try dsimp only at hSw); go_simp; (try with_reducible rfl))
        (try simp only [Act.put, List.setIfInBounds_toArray, List.set_cons_zero, List.set_cons_succ])
        refine take_yes (i := 7) 18 (v := ?_) rfl rfl (by kernel_rfl) (by kernel_rfl) (by kernel_rfl) (fun _ _ _ h => h) (by kernel_rfl) hHeld ?_ ?_
        rotate_left
        focus (intro w hSw; (try dsimp only at hSw); go_simp; (try with_reducible rfl))
        (try simp only [Act.put, List.setIfInBounds_toArray, List.set_cons_zero, List.set_cons_succ])
        refine take_yes (i := 8) 19 (v := ?_) rfl rfl (by kernel_rfl) (by kernel_rfl) (by kernel_rfl) (fun _ _ _ h => h) (by kernel_rfl) hHeld ?_ ?_
        rotate_left
        focus (intro w hSw; obtain ⟨z0, z1, z2, z3, z4, -⟩ := row5 (HU.out w hSw).2.2.2.1; (try dsimp only at hSw); go_simp; (try with_reducible rfl))
        (try simp only [Act.put, List.setIfInBounds_toArray, List.set_cons_zero, List.set_cons_succ])
        refine wpAnyH_ready (rs := [9]) (by kernel_rfl) (by simp) ?_
        refine AllReadyH.cons rfl (fun K hK => ?_) AllReadyH.nil
        go_simp
        go_at_call 13
        refine (HK.out _ hHeld).mono ?_
        rintro e V1 ⟨rfl, hb⟩
        have hS := Below.on hHeld hb
        go_wp2_with fail
        refine hK.out _ _ hS (fun hHeld => ?_)
        clear hK
        (try simp only [Act.put, List.setIfInBounds_toArray, List.set_cons_zero, List.set_cons_succ])
        refine take_yes (i := 10) 21 (v := ?_) rfl rfl (by kernel_rfl) (by kernel_rfl) (by kernel_rfl) (fun _ _ _ h => h) (by kernel_rfl) hHeld ?_ ?_
        rotate_left
        focus (intro w hSw; (try dsimp only at hSw); go_simp; (try with_reducible rfl))
        (try simp only [Act.put, List.setIfInBounds_toArray, List.set_cons_zero, List.set_cons_succ])
        refine take_yes (i := 11) 22 (v := ?_) rfl rfl (by kernel_rfl) (by kernel_rfl) (by kernel_rfl) (fun _ _ _ h => h) (by kernel_rfl) hHeld ?_ ?_
        rotate_left
        focus (intro w hSw; (try dsimp only at hSw); go_simp; (try with_reducible rfl))
        (try simp only [Act.put, List.setIfInBounds_toArray, List.set_cons_zero, List.set_cons_succ])
        refine take_yes (i := 12) 23 (v := ?_) rfl rfl (by kernel_rfl) (by kernel_rfl) (by kernel_rfl) (fun _ _ _ h => h) (by kernel_rfl) hHeld ?_ ?_
        rotate_left
        focus (intro w hSw; (try dsimp only at hSw); go_simp; (try with_reducible rfl))
        (try simp only [Act.put, List.setIfInBounds_toArray, List.set_cons_zero, List.set_cons_succ])
        refine take_yes (i := 13) 24 (v := ?_) rfl rfl (by kernel_rfl) (by kernel_rfl) (by kernel_rfl) (fun _ _ _ h => h) (by kernel_rfl) hHeld ?_ ?_
        rotate_left
        focus (intro w hSw; obtain ⟨z0, z1, z2, z3, z4, -⟩ := row5 (HU.out w hSw).2.2.2.1; (try dsimp only at hSw); go_simp; (try with_reducible rfl))
        (try simp only [Act.put, List.setIfInBounds_toArray, List.set_cons_zero, List.set_cons_succ])
        refine take_yes (i := 16) 27 (v := ?_) rfl rfl (by kernel_rfl) (by kernel_rfl) (by kernel_rfl) (fun _ _ _ h => h) (by kernel_rfl) hHeld ?_ ?_
        rotate_left
        focus (intro w hSw; (try dsimp only at hSw); go_simp; (try with_reducible rfl))
        (try simp only [Act.put, List.setIfInBounds_toArray, List.set_cons_zero, List.set_cons_succ])
        refine take_yes (i := 17) 28 (v := ?_) rfl rfl (by kernel_rfl) (by kernel_rfl) (by kernel_rfl) (fun _ _ _ h => h) (by kernel_rfl) hHeld ?_ ?_
        rotate_left
        focus (intro w hSw; have zx := HX.out w hSw; (try dsimp only at hSw); go_simp; (try with_reducible rfl))
        (try simp only [Act.put, List.setIfInBounds_toArray, List.set_cons_zero, List.set_cons_succ])
        refine wpAnyH_ready (rs := [14]) (by kernel_rfl) (by simp) ?_
        refine AllReadyH.cons rfl (fun K hK => ?_) AllReadyH.nil
        go_simp
        go_at_call 14
        refine (HP2.out _ hHeld).mono ?_
        rintro e V2 ⟨b2, l2, c2, rfl, hBt, hb⟩
        have hS := Below.on hHeld hb
        have hq : (convert 22 9 (.slice b2 l2 c2)).run Try.prog V2 = .ok (.string (strOf (bytV 6 v []))) V2 := by obtain ⟨_, _, hsh, hsg, _⟩ := hBt.shape; cases hsh; exact conv_seg _ hsg
        have hse : ((strOf (bytV 6 v [])).toList == (strOf xs).toList) = false := by rw [strOf_eq hBt.1 Hxb.out]; simp [Hbx.out]
        generalize strOf (bytV 6 v []) = s1 at *
        generalize strOf xs = sx at *
        clear hBt hb
        go_wp2_with fail
        refine hK.out _ _ hS (fun hHeld => ?_)
        clear hK
        (try simp only [Act.put, List.setIfInBounds_toArray, List.set_cons_zero, List.set_cons_succ])
        refine wpAnyH_ready (rs := [15]) (by kernel_rfl) (by simp) ?_
        refine AllReadyH.cons rfl (fun K hK => ?_) AllReadyH.nil
        go_simp
        have hS := hHeld
        go_wp2_with fail
        refine hK.out _ _ hS (fun hHeld => ?_)
        clear hK
        (try simp only [Act.put, List.setIfInBounds_toArray, List.set_cons_zero, List.set_cons_succ])
        refine take_yes (i := 18) 29 (v := ?_) rfl rfl (by kernel_rfl) (by kernel_rfl) (by kernel_rfl) (fun _ _ _ h => h) (by kernel_rfl) hHeld ?_ ?_
        rotate_left
        focus (intro w hSw; (try dsimp only at hSw); go_simp; (try with_reducible rfl))
        (try simp only [Act.put, List.setIfInBounds_toArray, List.set_cons_zero, List.set_cons_succ])
        refine take_yes (i := 19) 30 (v := ?_) rfl rfl (by kernel_rfl) (by kernel_rfl) (by kernel_rfl) (fun _ _ _ h => h) (by kernel_rfl) hHeld ?_ ?_
        rotate_left
        focus (intro w hSw; (try dsimp only at hSw); go_simp; (try with_reducible rfl))
        (try simp only [Act.put, List.setIfInBounds_toArray, List.set_cons_zero, List.set_cons_succ])
        refine wpAnyH_done (by kernel_rfl) ?_ _
        obtain ⟨hbE, hzE, hrE, hpE, hvE⟩ := HU.out _ hHeld
        obtain ⟨o0, o1, o2, o3, o4, of⟩ := row5 hrE
        have f0 := of 0; have f1 := of 1; have f2 := of 2; have f3 := of 3; have f4 := of 4; clear of
        have HE := hide' (And.intro hbE (And.intro hzE (And.intro hrE hvE)))
        clear hbE hzE hrE hpE hvE
        go_wp2_with fail
        have hfin := row5 (set5_heap (j := 0) (.int .i64 0) (.int .i64 0) (.slice none 0 0) (.slice none 0 0) (.slice none 0 0) HE.out.2.2.1)
        simp only [set5, Nat.zero_add] at hfin
        obtain ⟨x0, x1, x2, x3, x4, _⟩ := hfin
        refine bodyPost_ret (v := .tuple #[.agg #[.int .i64 0, .int .i64 0, .slice none 0 0, .slice none 0 0, .slice none 0 0], .bool false]) (by simp [results, Try.results4, go_sem, x0, x1, x2, x3, x4]) rfl ?_
        exact readEnd_no (by rw [← Bool.not_eq_true, hiff]; exact HNO.out) HE.out.1 HE.out.2.1
  · have hat' : (at_ != (nl : Int)) = true := by simp [hat]
    have HNO : Hid (¬ (at_ = (nl : Int) ∧ okB 6 v = true ∧ bytV 6 v [] = xs)) := hide' (fun h => hat h.1)
    clear HP HX HK
    refine wp_region_held_drew (S := (fun wx => Below w3.heap.size w3 wx)) (by kernel_rfl) hB3.out.drew (fun hHeld => ?_)
    refine take_yes (i := 0) 11 (v := ?_) rfl rfl (by kernel_rfl) (by kernel_rfl) (by kernel_rfl) (fun _ _ _ h => h) (by kernel_rfl) hHeld ?_ ?_
    rotate_left
    focus (intro w hSw; (try dsimp only at hSw); go_simp; (try with_reducible rfl))
    (try simp only [Act.put, List.setIfInBounds_toArray, List.set_cons_zero, List.set_cons_succ])
    refine take_yes (i := 1) 12 (v := ?_) rfl rfl (by kernel_rfl) (by kernel_rfl) (by kernel_rfl) (fun _ _ _ h => h) (by kernel_rfl) hHeld ?_ ?_
    rotate_left
    focus (intro w hSw; (try dsimp only at hSw); go_simp; (try with_reducible rfl))
    (try simp only [Act.put, List.setIfInBounds_toArray, List.set_cons_zero, List.set_cons_succ])
    refine take_yes (i := 2) 13 (v := ?_) rfl rfl (by kernel_rfl) (by kernel_rfl) (by kernel_rfl) (fun _ _ _ h => h) (by kernel_rfl) hHeld ?_ ?_
    rotate_left
    focus (intro w hSw; (try dsimp only at hSw); go_simp; (try with_reducible rfl))
    (try simp only [Act.put, List.setIfInBounds_toArray, List.set_cons_zero, List.set_cons_succ])
    refine take_yes (i := 3) 14 (v := ?_) rfl rfl (by kernel_rfl) (by kernel_rfl) (by kernel_rfl) (fun _ _ _ h => h) (by kernel_rfl) hHeld ?_ ?_
    rotate_left
    focus (intro w hSw; have zc := HCx.out w hSw; (try dsimp only at hSw); go_simp; (try with_reducible rfl))
    (try simp only [Act.put, List.setIfInBounds_toArray, List.set_cons_zero, List.set_cons_succ])
    refine take_yes (i := 4) 15 (v := ?_) rfl rfl (by kernel_rfl) (by kernel_rfl) (by kernel_rfl) (fun _ _ _ h => h) (by kernel_rfl) hHeld ?_ ?_
    rotate_left
    focus (intro w hSw; (try dsimp only at hSw); go_simp; (try with_reducible rfl))
    (try simp only [Act.put, List.setIfInBounds_toArray, List.set_cons_zero, List.set_cons_succ])
    refine take_yes (i := 5) 16 (v := ?_) rfl rfl (by kernel_rfl) (by kernel_rfl) (by kernel_rfl) (fun _ _ _ h => h) (by kernel_rfl) hHeld ?_ ?_
    rotate_left
    focus (intro w hSw; (try dsimp only at hSw); go_simp; (try with_reducible rfl))
    (try simp only [Act.put, List.setIfInBounds_toArray, List.set_cons_zero, List.set_cons_succ])
    refine take_yes (i := 6) 17 (v := ?_) rfl rfl (by kernel_rfl) (by kernel_rfl) (by kernel_rfl) (fun _ _ _ h => h) (by kernel_rfl) hHeld ?_ ?_
    rotate_left
    focus (intro w hSw; (try dsimp only at hSw); go_simp; (try with_reducible rfl))
    (try simp only [Act.put, List.setIfInBounds_toArray, List.set_cons_zero, List.set_cons_succ])
    refine take_yes (i := 7) 18 (v := ?_) rfl rfl (by kernel_rfl) (by kernel_rfl) (by kernel_rfl) (fun _ _ _ h => h) (by kernel_rfl) hHeld ?_ ?_
    rotate_left
    focus (intro w hSw; (try dsimp only at hSw); go_simp; (try with_reducible rfl))
    (try simp only [Act.put, List.setIfInBounds_toArray, List.set_cons_zero, List.set_cons_succ])
    refine take_not (i := 8) 19 rfl rfl (by kernel_rfl) (by kernel_rfl) (by kernel_rfl) (fun _ _ _ h => h) (by kernel_rfl) hHeld ?_
    (try simp only [Act.put, List.setIfInBounds_toArray, List.set_cons_zero, List.set_cons_succ])
    refine take_not (i := 9) 20 rfl rfl (by kernel_rfl) (by kernel_rfl) (by kernel_rfl) (fun _ _ _ h => h) (by kernel_rfl) hHeld ?_
    (try simp only [Act.put, List.setIfInBounds_toArray, List.set_cons_zero, List.set_cons_succ])
    refine take_not (i := 10) 21 rfl rfl (by kernel_rfl) (by kernel_rfl) (by kernel_rfl) (fun _ _ _ h => h) (by kernel_rfl) hHeld ?_
    (try simp only [Act.put, List.setIfInBounds_toArray, List.set_cons_zero, List.set_cons_succ])
    refine take_yes (i := 11) 22 (v := ?_) rfl rfl (by kernel_rfl) (by kernel_rfl) (by kernel_rfl) (fun _ _ _ h => h) (by kernel_rfl) hHeld ?_ ?_
    rotate_left
    focus (intro w hSw; (try dsimp only at hSw); go_simp; (try with_reducible rfl))
    (try simp only [Act.put, List.setIfInBounds_toArray, List.set_cons_zero, List.set_cons_succ])
    refine take_yes (i := 12) 23 (v := ?_) rfl rfl (by kernel_rfl) (by kernel_rfl) (by kernel_rfl) (fun _ _ _ h => h) (by kernel_rfl) hHeld ?_ ?_
    rotate_left
    focus (intro w hSw; (try dsimp only at hSw); go_simp; (try with_reducible rfl))
    (try simp only [Act.put, List.setIfInBounds_toArray, List.set_cons_zero, List.set_cons_succ])
    refine take_not (i := 13) 24 rfl rfl (by kernel_rfl) (by kernel_rfl) (by kernel_rfl) (fun _ _ _ h => h) (by kernel_rfl) hHeld ?_
    (try simp only [Act.put, List.setIfInBounds_toArray, List.set_cons_zero, List.set_cons_succ])
    refine take_not (i := 14) 25 rfl rfl (by kernel_rfl) (by kernel_rfl) (by kernel_rfl) (fun _ _ _ h => h) (by kernel_rfl) hHeld ?_
    (try simp only [Act.put, List.setIfInBounds_toArray, List.set_cons_zero, List.set_cons_succ])
    refine take_not (i := 15) 26 rfl rfl (by kernel_rfl) (by kernel_rfl) (by kernel_rfl) (fun _ _ _ h => h) (by kernel_rfl) hHeld ?_
    (try simp only [Act.put, List.setIfInBounds_toArray, List.set_cons_zero, List.set_cons_succ])
    refine take_not (i := 16) 27 rfl rfl (by kernel_rfl) (by kernel_rfl) (by kernel_rfl) (fun _ _ _ h => h) (by kernel_rfl) hHeld ?_
    (try simp only [Act.put, List.setIfInBounds_toArray, List.set_cons_zero, List.set_cons_succ])
    refine take_not (i := 17) 28 rfl rfl (by kernel_rfl) (by kernel_rfl) (by kernel_rfl) (fun _ _ _ h => h) (by kernel_rfl) hHeld ?_
    (try simp only [Act.put, List.setIfInBounds_toArray, List.set_cons_zero, List.set_cons_succ])
    refine take_not (i := 18) 29 rfl rfl (by kernel_rfl) (by kernel_rfl) (by kernel_rfl) (fun _ _ _ h => h) (by kernel_rfl) hHeld ?_
    (try simp only [Act.put, List.setIfInBounds_toArray, List.set_cons_zero, List.set_cons_succ])
    refine take_yes (i := 19) 30 (v := ?_) rfl rfl (by kernel_rfl) (by kernel_rfl) (by kernel_rfl) (fun _ _ _ h => h) (by kernel_rfl) hHeld ?_ ?_
    rotate_left
    focus (intro w hSw; (try dsimp only at hSw); go_simp; (try with_reducible rfl))
    (try simp only [Act.put, List.setIfInBounds_toArray, List.set_cons_zero, List.set_cons_succ])
    refine wpAnyH_done (by kernel_rfl) ?_ _
    generalize w3.drew = wE at *
    obtain ⟨hbE, hzE, hrE, hpE, hvE⟩ := HU.out _ hHeld
    obtain ⟨o0, o1, o2, o3, o4, of⟩ := row5 hrE
    have f0 := of 0; have f1 := of 1; have f2 := of 2; have f3 := of 3; have f4 := of 4; clear of
    have HE := hide' (And.intro hbE (And.intro hzE (And.intro hrE hvE)))
    clear hbE hzE hrE hpE hvE
    go_wp2_with fail
    have hfin := row5 (set5_heap (j := 0) (.int .i64 0) (.int .i64 0) (.slice none 0 0) (.slice none 0 0) (.slice none 0 0) HE.out.2.2.1)
    simp only [set5, Nat.zero_add] at hfin
    obtain ⟨x0, x1, x2, x3, x4, _⟩ := hfin
    refine bodyPost_ret (v := .tuple #[.agg #[.int .i64 0, .int .i64 0, .slice none 0 0, .slice none 0 0, .slice none 0 0], .bool false]) (by simp [results, Try.results4, go_sem, x0, x1, x2, x3, x4]) rfl ?_
    exact readEnd_no (by rw [← Bool.not_eq_true, hiff]; exact HNO.out) HE.out.1 HE.out.2.1
end Go.Proofs.Ytmdmiiikbdnioaa
