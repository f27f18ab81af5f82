/-
  Texts that a law leans on, one behind the other; no statement is proved here.
-/
import Derived.Test.YteeplidoojeddaaGreatDoorPk13
import Derived.Test.YteeplidoojeddaaGreatDoorPk11
import Derived.Test.YteeplidoojeddaaGreatDoorPk0
/-
  ValBytes of the specification: l2put of lists and maps, of all; ValBytes.
-/
namespace Go.Proofs.YteeplidoojeddaaGreatDoor
open Go.RowKit
set_option linter.unusedVariables false
set_option linter.unusedSimpArgs false

theorem kid_list (d : Nat) (K : List (List Int)) (L : List (Vl d)) (b : List Int) (k : Nat) (h : k < L.length) : kidB (fun x b => bytV d x b) false K L b (k + 1) = bytV d L[k] (kidB (fun x b => bytV d x b) false K L b k) := by
  rw [kidB_succ _ _ _ _ _ _ h]; rfl
theorem kid_map (d : Nat) (K : List (List Int)) (L : List (Vl d)) (b : List Int) (k : Nat) (h : k < L.length) : kidB (fun x b => bytV d x b) true K L b (k + 1) = bytV d L[k] (putText (kidB (fun x b => bytV d x b) true K L b k) (K.getD k [])) := by
  rw [kidB_succ _ _ _ _ _ _ h]; rfl
theorem kid_zero (d : Nat) (m : Bool) (K : List (List Int)) (L : List (Vl d)) (b : List Int) : kidB (fun x b => bytV d x b) m K L b 0 = b := rfl

theorem kid_room (d : Nat) (m : Bool) (K : List (List Int)) (L : List (Vl d)) (b : List Int) (M : Nat) (hM : b.length + 60 * pre (partsV d) L L.length + 25 ≤ M) (k : Nat) (h : k < L.length) : (kidB (fun x b => bytV d x b) m K L b k).length + 25 + 60 * partsV d L[k] ≤ M := by
  have h1 := kidB_len (fun x b => bytV d x b) (partsV d) (fun x b => bytV_len d x b) m K L b k (by omega)
  have h3 := pre_succ (partsV d) L k h
  have h4 := pre_le (partsV d) L (k + 1)
  have h5 := pre_all (partsV d) L
  omega

set_option maxHeartbeats 3000000 in
set_option maxRecDepth 100000 in
theorem l2put_list (d : Nat) (ih : SByAt d) (N : Nat) (a : Option Addr) (cap : Nat) (xs : List Int) (vn : Int) (vs : List Int) (vK : List (List Int)) (vL : List (Vl d)) (a2 : Option Addr) (l2 p2 : Nat) (a3 : Option Addr) (p3 : Nat) (a4 : Option Addr) (p4 : Nat) (deep : Nat) (w : World) (hN : N ≤ w.heap.size) (hs : Seg w a xs) (ka : a = none → cap = 0)
    (hl : LSeg (fun b => b < N) w d (.slice a4 vL.length p4) vL) (hk : KSeg (fun b => b < N) w (.slice a3 vK.length p3) vK) (hkl : True) (hkt : ∀ j, j < vK.length → (vK.getD j []).length ≤ 1000) (hg : ∀ j (h : j < vL.length), goodB d vL[j] deep = true) (hn : vL.length ≤ 9223372036854775807) (hlen : xs.length + 60 * (1 + pre (partsV d) vL vL.length) ≤ 1000000) :
    Calls Tryz.prog 35 #[.slice a xs.length cap, .agg #[.int .i64 4, .int .i64 vn, .slice a2 l2 p2, .slice a3 vK.length p3, .slice a4 vL.length p4]] w fun e w' => ∃ u, e = .returned u ∧ Bts w' w.heap.size u (bytV (d + 1) (4, vn, vs, vK, vL) xs) ∧ Below w.heap.size w w' := by
  have b0 : ∀ o : Obj, Below w.heap.size w (w.alloc o) := fun o => (Below.refl _ _).alloc (Nat.le_refl _) o
  have Hb := hide' b0
  have HL := hide' hl
  have HK := hide' hk
  have HI := hide' ih
  have HG := hide' hg
  have HKL := hide' hkl
  have HKT := hide' hkt
  have H1 : Hid (∀ o : Obj, Calls Tryz.prog 33 #[.slice a xs.length cap, .int .i64 4] (w.alloc o) (PEnd (w.alloc o) (putNum xs 4))) := fun o => spec_PutNum_end a cap xs 4 _ (hs.grow (b0 o)) ka (by omega)
  have hpl := putNum_len xs 4
  have hpl2 := putNum_len (putNum xs 4) vL.length
  obtain ⟨B0, hB0⟩ : ∃ B0, B0 = putNum (putNum xs 4) vL.length := ⟨_, rfl⟩
  rw [← hB0] at hpl2
  have HRoom : Hid (∀ k (h : k < vL.length), (kidB (fun x b => bytV d x b) false vK vL B0 k).length + 25 + 60 * partsV d vL[k] ≤ 1000000) := fun k h => kid_room d false vK vL B0 1000000 (by omega) k h
  have HF : Hid (bytV (d + 1) (4, vn, vs, vK, vL) xs = kidB (fun x b => bytV d x b) false vK vL B0 vL.length) := by show _ = _; rw [hB0]; exact bytV_list d vn vs vK vL xs
  have HSt : Hid (∀ k (h : k < vL.length), kidB (fun x b => bytV d x b) false vK vL B0 (k + 1) = bytV d vL[k] (kidB (fun x b => bytV d x b) false vK vL B0 k)) := fun k h => kid_list d vK vL B0 k h
  have HZ : Hid (kidB (fun x b => bytV d x b) false vK vL B0 0 = B0) := rfl
  generalize hkid : kidB (fun x b => bytV d x b) false vK vL B0 = kid at *
  have hP2 : Hid (∀ (a1 : Option Addr) (c1 : Nat) (wx : World), Bts wx 0 (.slice a1 (putNum xs 4).length c1) (putNum xs 4) → (a1 = none → c1 = 0) → Calls Tryz.prog 33 #[.slice a1 (putNum xs 4).length c1, .int .i64 vL.length] wx (PEnd wx B0)) := fun a1 c1 wx hB k => by rw [hB0]; exact spec_PutNum_end a1 c1 _ _ wx hB.seg k (by omega)
  obtain ⟨ob, HOb⟩ : ∃ ob, Hid (ob = Obj.cells #[.int .i64 4, .int .i64 vn, .slice a2 l2 p2, .slice a3 vK.length p3, .slice a4 vL.length p4] 34) := ⟨_, rfl⟩
  clear b0 hs hl hk hg ih hlen hkid hB0 hkl hkt
  go_enter Tryz.func35, Tryz.ntmps35
  go_wp2_with fail
  refine (H1.out _).mono ?_
  rintro e w1 ⟨a1, c1, rfl, hB1, b1, k1⟩
  obtain ⟨y0, y1, y2, y3, y4, _⟩ := row5 (box_row b1)
  have Bb1 : Hid (Below (w.alloc ob).heap.size (w.alloc ob) w1) := by rw [HOb.out]; exact b1
  have H2 := hide' (hP2.out a1 c1 w1 (hB1.mono (by omega)) k1)
  generalize (putNum xs 4).length = n1 at *
  clear b1 hB1 hP2
  go_wp2_with fail
  refine H2.out.mono ?_
  rintro e w2 ⟨a2', c2', rfl, hB2, b2, k2'⟩
  clear y0 y1 y2 y3 y4
  have Bb2 : Hid (Below (w.alloc ob).heap.size (w.alloc ob) w2) := Below.on Bb1.out b2
  have hrow := box_row Bb2.out
  rw [HOb.out] at hrow
  obtain ⟨y0, y1, y2, y3, y4, _⟩ := row5 hrow
  have HB2 : Hid (Bts w2 w.heap.size (.slice a2' B0.length c2') B0) := hB2.mono (by have := Bb1.out.size; simp at this; omega)
  generalize hn0 : B0.length = n0 at *
  clear b2 hB2 H2 hrow hn0
  go_wp2
  go_loopw [0, 7] (fun y i wr => ∃ k : Nat, k ≤ vL.length ∧ i = .int .i64 k ∧ Hid (Bts wr w.heap.size y (kid k)) ∧ Hid (Below (w.alloc ob).heap.size (w.alloc ob) wr)) (fun _ i _ => vL.length - (intOf i).toNat)
  case atStart => exact ⟨0, Nat.zero_le _, rfl, by rw [HZ.out]; exact HB2, Bb2⟩
  case round =>
    clear y0 y1 y2 y3 y4
    obtain ⟨k, hk, rfl, hB, hbel⟩ := hrel
    have hrow := box_row hbel.out
    rw [HOb.out] at hrow
    obtain ⟨y0, y1, y2, y3, y4, _⟩ := row5 hrow
    have B := Below.on (Hb.out ob) hbel.out
    clear hrow
    obtain ⟨ya, yc, rfl, _, _, _, _, kk⟩ := hB.out.shape
    by_cases hlt : k < vL.length
    · have hlt' : (k : Int) < (vL.length : Int) := by omega
      have hroom := HRoom.out k hlt
      obtain ⟨b, off, c, rfl, h5', hv⟩ := HL.out.at B hN hlt
      have HV := hide' hv
      obtain ⟨c0, c1', c2, c3, c4⟩ := c
      obtain ⟨q0, q1, q2, q3, q4⟩ := h5'
      simp only at q0 q1 q2 q3 q4
      have hz := B.size
      have HC := hide' (HI.out N ya yc (kid k) (c0, c1', c2, c3, c4) vL[k] deep wr (HV.out wr B) (by omega) hB.out.seg kk (HG.out k hlt) (by omega))
      rw [← HSt.out k hlt] at HC
      generalize (kid k).length = n2 at *
      clear hv hB
      go_wp2_with fail
      refine HC.out.mono ?_
      rintro e w3 ⟨u, rfl, hB3, b3⟩
      have B3 : Hid (Below (w.alloc ob).heap.size (w.alloc ob) w3) := Below.on hbel.out b3
      have HB3 : Hid (Bts w3 w.heap.size u (kid (k + 1))) := hB3.mono (by omega)
      obtain ⟨ya3, yc3, hu, _, _, _, _, _⟩ := hB3.shape
      generalize (kid (k + 1)).length = n3 at *
      subst hu
      clear q0 q1 q2 q3 q4 b3 HC hB3
      go_wp2
      go_roundw
      case rel => exact ⟨k + 1, by omega, by go_num, HB3, B3⟩
      case measure => simp [intOf]; omega
    · have hkn : k = vL.length := by omega
      have hlt' : ¬ (k : Int) < (vL.length : Int) := by omega
      have HE : Hid (Bts wr w.heap.size (.slice ya (kid k).length yc) (bytV (d + 1) (4, vn, vs, vK, vL) xs)) := by rw [HF.out, ← hkn]; exact hB
      clear hkn hB
      generalize (kid k).length = n1' at *
      go_wp2
      go_ret
      exact ⟨_, rfl, HE.out, B⟩

set_option maxHeartbeats 3000000 in
set_option maxRecDepth 100000 in
theorem l2put_map (d : Nat) (ih : SByAt d) (N : Nat) (a : Option Addr) (cap : Nat) (xs : List Int) (vn : Int) (vs : List Int) (vK : List (List Int)) (vL : List (Vl d)) (a2 : Option Addr) (l2 p2 : Nat) (a3 : Option Addr) (p3 : Nat) (a4 : Option Addr) (p4 : Nat) (deep : Nat) (w : World) (hN : N ≤ w.heap.size) (hs : Seg w a xs) (ka : a = none → cap = 0)
    (hl : LSeg (fun b => b < N) w d (.slice a4 vL.length p4) vL) (hk : KSeg (fun b => b < N) w (.slice a3 vK.length p3) vK) (hkl : vK.length = vL.length) (hkt : ∀ j, j < vK.length → (vK.getD j []).length ≤ 1000) (hg : ∀ j (h : j < vL.length), goodB d vL[j] deep = true) (hn : vL.length ≤ 9223372036854775807) (hlen : xs.length + 60 * (1 + pre (partsV d) vL vL.length) ≤ 1000000) :
    Calls Tryz.prog 35 #[.slice a xs.length cap, .agg #[.int .i64 5, .int .i64 vn, .slice a2 l2 p2, .slice a3 vK.length p3, .slice a4 vL.length p4]] w fun e w' => ∃ u, e = .returned u ∧ Bts w' w.heap.size u (bytV (d + 1) (5, vn, vs, vK, vL) xs) ∧ Below w.heap.size w w' := by
  have b0 : ∀ o : Obj, Below w.heap.size w (w.alloc o) := fun o => (Below.refl _ _).alloc (Nat.le_refl _) o
  have Hb := hide' b0
  have HL := hide' hl
  have HK := hide' hk
  have HI := hide' ih
  have HG := hide' hg
  have HKL := hide' hkl
  have HKT := hide' hkt
  have H1 : Hid (∀ o : Obj, Calls Tryz.prog 33 #[.slice a xs.length cap, .int .i64 5] (w.alloc o) (PEnd (w.alloc o) (putNum xs 5))) := fun o => spec_PutNum_end a cap xs 5 _ (hs.grow (b0 o)) ka (by omega)
  have hpl := putNum_len xs 5
  have hpl2 := putNum_len (putNum xs 5) vL.length
  obtain ⟨B0, hB0⟩ : ∃ B0, B0 = putNum (putNum xs 5) vL.length := ⟨_, rfl⟩
  rw [← hB0] at hpl2
  have HRoom : Hid (∀ k (h : k < vL.length), (kidB (fun x b => bytV d x b) true vK vL B0 k).length + 25 + 60 * partsV d vL[k] ≤ 1000000) := fun k h => kid_room d true vK vL B0 1000000 (by omega) k h
  have HF : Hid (bytV (d + 1) (5, vn, vs, vK, vL) xs = kidB (fun x b => bytV d x b) true vK vL B0 vL.length) := by show _ = _; rw [hB0]; exact bytV_map d vn vs vK vL xs
  have HSt : Hid (∀ k (h : k < vL.length), kidB (fun x b => bytV d x b) true vK vL B0 (k + 1) = bytV d vL[k] (putText (kidB (fun x b => bytV d x b) true vK vL B0 k) (vK.getD k []))) := fun k h => kid_map d vK vL B0 k h
  have HZ : Hid (kidB (fun x b => bytV d x b) true vK vL B0 0 = B0) := rfl
  generalize hkid : kidB (fun x b => bytV d x b) true vK vL B0 = kid at *
  have hP2 : Hid (∀ (a1 : Option Addr) (c1 : Nat) (wx : World), Bts wx 0 (.slice a1 (putNum xs 5).length c1) (putNum xs 5) → (a1 = none → c1 = 0) → Calls Tryz.prog 33 #[.slice a1 (putNum xs 5).length c1, .int .i64 vL.length] wx (PEnd wx B0)) := fun a1 c1 wx hB k => by rw [hB0]; exact spec_PutNum_end a1 c1 _ _ wx hB.seg k (by omega)
  obtain ⟨ob, HOb⟩ : ∃ ob, Hid (ob = Obj.cells #[.int .i64 5, .int .i64 vn, .slice a2 l2 p2, .slice a3 vK.length p3, .slice a4 vL.length p4] 34) := ⟨_, rfl⟩
  clear b0 hs hl hk hg ih hlen hkid hB0 hkl hkt
  go_enter Tryz.func35, Tryz.ntmps35
  go_wp2_with fail
  refine (H1.out _).mono ?_
  rintro e w1 ⟨a1, c1, rfl, hB1, b1, k1⟩
  obtain ⟨y0, y1, y2, y3, y4, _⟩ := row5 (box_row b1)
  have Bb1 : Hid (Below (w.alloc ob).heap.size (w.alloc ob) w1) := by rw [HOb.out]; exact b1
  have H2 := hide' (hP2.out a1 c1 w1 (hB1.mono (by omega)) k1)
  generalize (putNum xs 5).length = n1 at *
  clear b1 hB1 hP2
  go_wp2_with fail
  refine H2.out.mono ?_
  rintro e w2 ⟨a2', c2', rfl, hB2, b2, k2'⟩
  clear y0 y1 y2 y3 y4
  have Bb2 : Hid (Below (w.alloc ob).heap.size (w.alloc ob) w2) := Below.on Bb1.out b2
  have hrow := box_row Bb2.out
  rw [HOb.out] at hrow
  obtain ⟨y0, y1, y2, y3, y4, _⟩ := row5 hrow
  have HB2 : Hid (Bts w2 w.heap.size (.slice a2' B0.length c2') B0) := hB2.mono (by have := Bb1.out.size; simp at this; omega)
  generalize hn0 : B0.length = n0 at *
  clear b2 hB2 H2 hrow hn0
  go_wp2
  go_loopw [0, 7] (fun y i wr => ∃ k : Nat, k ≤ vL.length ∧ i = .int .i64 k ∧ Hid (Bts wr w.heap.size y (kid k)) ∧ Hid (Below (w.alloc ob).heap.size (w.alloc ob) wr)) (fun _ i _ => vL.length - (intOf i).toNat)
  case atStart => exact ⟨0, Nat.zero_le _, rfl, by rw [HZ.out]; exact HB2, Bb2⟩
  case round =>
    clear y0 y1 y2 y3 y4
    obtain ⟨k, hk, rfl, hB, hbel⟩ := hrel
    have hrow := box_row hbel.out
    rw [HOb.out] at hrow
    obtain ⟨y0, y1, y2, y3, y4, _⟩ := row5 hrow
    have B := Below.on (Hb.out ob) hbel.out
    clear hrow
    obtain ⟨ya, yc, rfl, _, _, _, _, kk⟩ := hB.out.shape
    by_cases hlt : k < vL.length
    · have hlt' : (k : Int) < (vL.length : Int) := by omega
      have hroom := HRoom.out k hlt
      obtain ⟨b, off, c, rfl, h5', hv⟩ := HL.out.at B hN hlt
      have HV := hide' hv
      obtain ⟨c0, c1', c2, c3, c4⟩ := c
      obtain ⟨q0, q1, q2, q3, q4⟩ := h5'
      simp only at q0 q1 q2 q3 q4
      have hz := B.size
      have hlt3 : k < vK.length := by rw [HKL.out]; exact hlt
      have hlt3' : (k : Int) < (vK.length : Int) := by omega
      obtain ⟨bk, ok, rfl, hkc⟩ := (HK.out.agree (agree_below (B.mono hN))).at hlt3
      obtain ⟨ta, tc, qk, sk, mk⟩ := hkc k hlt3
      have ktc : ta = none → tc = 0 := (KSeg.none_at (HK.out.agree (agree_below (B.mono hN))) hlt3 qk)
      have HT := hide' (spec_PutText_end ya ta yc tc (kid k) (vK.getD k []) wr hB.out.seg sk kk ktc (by omega) (by have := HKT.out k hlt3; omega))
      have hptl := putText_len (kid k) (vK.getD k [])
      have HS1 := HSt.out k hlt
      obtain ⟨ts, hts⟩ : ∃ ts, ts = vK.getD k [] := ⟨_, rfl⟩
      rw [← hts] at HT qk hptl HS1
      obtain ⟨zz, hzz⟩ : ∃ zz, zz = putText (kid k) ts := ⟨_, rfl⟩
      rw [← hzz] at HT hptl HS1
      have HI2 : Hid (∀ (ua : Option Addr) (uc : Nat) (wx : World), Below w.heap.size w wx → Bts wx wr.heap.size (.slice ua zz.length uc) zz → (ua = none → uc = 0) → Calls Tryz.prog 35 #[.slice ua zz.length uc, .agg #[c0, c1', c2, c3, c4]] wx fun e w' => ∃ u, e = .returned u ∧ Bts w' wx.heap.size u (kid (k + 1)) ∧ Below wx.heap.size wx w') := fun ua uc wx hb hB' hk' => by
        rw [HS1]
        exact HI.out N ua uc zz (c0, c1', c2, c3, c4) vL[k] deep wx (HV.out wx hb) (by have := hb.size; omega) hB'.seg hk' (HG.out k hlt) (by omega)
      have hq : Hid (∀ wx, Below w.heap.size w wx → Five wx b (off + k * 5) (c0, c1', c2, c3, c4)) := fun wx hb => five_same HL.out hb B hN hlt ⟨q0, q1, q2, q3, q4⟩
      generalize (kid k).length = n2 at *
      generalize ts.length = n4 at *
      clear hv hB sk mk hkc hts hzz HS1 q0 q1 q2 q3 q4
      go_wp2_with fail
      refine HT.out.mono ?_
      rintro e w3 ⟨ua, uc, rfl, hB3, b3, k3⟩
      clear y0 y1 y2 y3 y4
      have B3 : Hid (Below (w.alloc ob).heap.size (w.alloc ob) w3) := Below.on hbel.out b3
      have B3' := Below.on B b3
      have hrow := box_row B3.out
      rw [HOb.out] at hrow
      obtain ⟨y0, y1, y2, y3, y4, _⟩ := row5 hrow
      obtain ⟨q0, q1, q2, q3, q4⟩ := hq.out w3 B3'
      simp only at q0 q1 q2 q3 q4
      have HC := hide' (HI2.out ua uc w3 B3' hB3 k3)
      have hz3 := B3'.size
      generalize zz.length = n5 at *
      clear b3 hB3 hrow HI2 HT qk
      go_wp2_with fail
      refine HC.out.mono ?_
      rintro e w4 ⟨u, rfl, hB4, b4⟩
      have B4 : Hid (Below (w.alloc ob).heap.size (w.alloc ob) w4) := Below.on B3.out b4
      have HB4 : Hid (Bts w4 w.heap.size u (kid (k + 1))) := hB4.mono (by omega)
      obtain ⟨ya4, yc4, hu, _, _, _, _, _⟩ := hB4.shape
      generalize (kid (k + 1)).length = n3 at *
      subst hu
      clear q0 q1 q2 q3 q4 b4 HC hB4
      go_wp2
      go_roundw
      case rel => exact ⟨k + 1, by omega, by go_num, HB4, B4⟩
      case measure => simp [intOf]; omega
    · have hkn : k = vL.length := by omega
      have hlt' : ¬ (k : Int) < (vL.length : Int) := by omega
      have HE : Hid (Bts wr w.heap.size (.slice ya (kid k).length yc) (bytV (d + 1) (5, vn, vs, vK, vL) xs)) := by rw [HF.out, ← hkn]; exact hB
      clear hkn hB
      generalize (kid k).length = n1' at *
      go_wp2
      go_ret
      exact ⟨_, rfl, HE.out, B⟩
end Go.Proofs.YteeplidoojeddaaGreatDoor
/-
  ValBytes of the specification: l2put of whatever value, ValBytes.
-/
namespace Go.Proofs.YteeplidoojeddaaGreatDoor
open Go.RowKit
set_option linter.unusedVariables false
set_option linter.unusedSimpArgs false

theorem shape_kinds {vk vn : Int} {vs : List Int} {vK : List (List Int)} {n : Nat} (h : shapeB vk vn vs vK n = true) :
    vs.length ≤ 20 ∧ ((vk = 0 ∨ vk = 6 ∨ vk = 1 ∨ vk = 3) ∨ (vk = 2 ∧ -1000000000000 ≤ vn ∧ vn ≤ 1000000000000) ∨ (vk = 4 ∧ vK.length = 0) ∨ (vk = 5 ∧ vK.length = n ∧ ascB vK = true)) := by
  unfold shapeB bareB intB at h
  simp only [Bool.and_eq_true, Bool.or_eq_true, decide_eq_true_eq] at h
  obtain ⟨⟨⟨⟨h1, h2⟩, h3⟩, h4⟩, h5⟩ := h
  have htx : textB vs = true → vs.length ≤ 20 := fun ht => by
    unfold textB at ht
    simp only [Bool.and_eq_true, decide_eq_true_eq] at ht
    exact ht.1
  rcases h5 with (((((h5 | h5) | h5) | h5) | h5) | h5) | h5
  · exact ⟨by omega, .inl (.inl h5)⟩
  · exact ⟨by omega, .inl (.inr (.inl h5))⟩
  · exact ⟨by omega, .inl (.inr (.inr (.inl h5.1)))⟩
  · exact ⟨by omega, .inr (.inl ⟨h5.1, h5.2.1, h5.2.2⟩)⟩
  · exact ⟨htx h5.2, .inl (.inr (.inr (.inr h5.1)))⟩
  · exact ⟨by omega, .inr (.inr (.inl ⟨h5, by omega⟩))⟩
  · exact ⟨by omega, .inr (.inr (.inr ⟨h5.1, h5.2.1, h5.2.2⟩))⟩

theorem asc_short {vK : List (List Int)} (h : ascB vK = true) (j : Nat) (hj : j < vK.length) : (vK.getD j []).length ≤ 8 := by
  have h1 := ascB_at h hj
  unfold stepB nameB at h1
  simp only [Bool.and_eq_true, decide_eq_true_eq] at h1
  exact h1.1.1.2

theorem l2put_succ (d : Nat) (ih : SByAt d) : SByAt (d + 1) := by
  intro N a cap xs c v deep w hv hN hs ka hg hlen
  obtain ⟨c0, c1, c2, c3, c4⟩ := c
  obtain ⟨vk, vn, vs, vK, vL⟩ := v
  obtain ⟨_, hsh, hkids⟩ := (good_succ _ _ _ _ _ _ _).1 hg
  obtain ⟨hvs, hk⟩ := shape_kinds hsh
  obtain ⟨e0, e1, ht, hK, hl⟩ := (VSeg_succ _ _ _ _ _).1 hv
  simp only at e0 e1 ht hK hl
  subst e0
  subst e1
  have hp := parts_succ d vk vn vs vK vL
  rw [hp] at hlen
  have hl' := hl
  have hK' := hK
  obtain ⟨a2, p2, rfl, s2, l2, m2, k2, r2⟩ := ht
  obtain ⟨a3, p3, rfl, _⟩ := hK
  obtain ⟨a4, p4, rfl, hlc4, hcm4, _⟩ := hl
  unfold maxLen at hcm4
  rcases hk with hk | ⟨rfl, hlo, hhi⟩ | ⟨rfl, h0⟩ | ⟨rfl, h1, h2⟩
  · exact l2put_leaf d N a cap xs vk vn vs vK vL a2 p2 _ _ w hs ka (by omega) s2 k2 (by omega) ⟨_, _, _, rfl⟩ ⟨_, _, _, rfl⟩ hk
  · exact l2put_int d N a cap xs vn vs vK vL a2 p2 _ _ w hs ka (by omega) s2 k2 (by omega) ⟨_, _, _, rfl⟩ ⟨_, _, _, rfl⟩ hlo hhi
  · exact l2put_list d ih N a cap xs vn vs vK vL a2 _ p2 a3 p3 a4 p4 (deep + 1) w hN hs ka hl' hK' trivial (fun j hj => by omega) hkids (by omega) hlen
  · exact l2put_map d ih N a cap xs vn vs vK vL a2 _ p2 a3 p3 a4 p4 (deep + 1) w hN hs ka hl' hK' h1 (fun j hj => by have := asc_short h2 j hj; omega) hkids (by omega) hlen

theorem l2put_any (d : Nat) : SByAt d := by
  induction d with
  | zero => intro N a cap xs c v deep w hv; exact hv.elim
  | succ d ih => exact l2put_succ d ih

theorem okB_parts {d : Nat} {v : Vl d} (h : okB d v = true) : goodB d v 1 = true ∧ partsV d v ≤ 40 := by
  unfold okB at h
  simp only [Bool.and_eq_true, decide_eq_true_eq] at h
  exact h

/-- What ValBytes has answered. -/
def ByEnd (d : Nat) (v : Vl d) (w : World) (e : Ending) (w' : World) : Prop := ∃ a n c, e = .returned (.tuple #[.slice a n c, .bool (okB d v)]) ∧ Bts w' w.heap.size (.slice a n c) (valBytes d v) ∧ Below w.heap.size w w'

end Go.Proofs.YteeplidoojeddaaGreatDoor
/-
  EventBytes of the specification.
-/
namespace Go.Proofs.YteeplidoojeddaaGreatDoor
open Go.RowKit
set_option linter.unusedVariables false
set_option linter.unusedSimpArgs false

/-- What stands behind k of the addresses. -/
def LpS (w : World) (o : Obj) (z : List Int) (ds : List (List Int)) (k : Nat) (y : Value) (wr : World) : Prop := ∃ ya yc, y = .slice ya (depB z ds k).length yc ∧ Seg wr ya (depB z ds k) ∧ (ya = none → yc = 0) ∧ Below w.heap.size w wr ∧ wr.heap[w.heap.size]? = some o

set_option maxHeartbeats 6400000 in
set_option maxRecDepth 100000 in
theorem l4bytes_any (d N : Nat) (cs : List Value) (it : Rcd d) (w : World) (h : RSg (fun b => b < N) w d cs it) (hN : N ≤ w.heap.size) (hz : RSz d it) (hev : evB d it = true) :
    Calls Tryz.prog 17 #[.agg cs.toArray] w (PEnd w (evBy d it.1 it.2.1 it.2.2.1 it.2.2.2.1 it.2.2.2.2)) := by
  have HA : Hid (∀ o : Obj, Below w.heap.size w (w.alloc o)) := fun o => (Below.refl _ _).alloc (Nat.le_refl _) o
  have Hbox : Hid (∀ o wx, Below (w.alloc o).heap.size (w.alloc o) wx → wx.heap[w.heap.size]? = some o) := fun o wx h => box_row h
  obtain ⟨na, np, bk, bn, a2, l2, p2, a3, l3, p3, a4, l4, p4, xa, xp, rfl, ht, hv, hkk⟩ := h.form
  obtain ⟨kk, ad, jj, vv, ds⟩ := it
  simp only at ht hv hkk ⊢
  have hadl : ad.length ≤ 1048576 := hz.1
  have hA : ∀ wx, Below w.heap.size w wx → Agree (fun b => b < N) w wx := fun wx hb => agree_below (hb.mono hN)
  obtain ⟨na', np', e1, hsa, hac, hac2, hna, hral⟩ := ht
  simp only [Value.slice.injEq, true_and] at e1
  obtain ⟨rfl, rfl⟩ := e1
  have HSa : Hid (∀ wx, Below w.heap.size w wx → Seg wx na ad) := fun wx hb => hsa.grow hb
  have HKs : Hid (∀ wx, Below w.heap.size w wx → KSeg (fun b => b < N) wx (.slice xa ds.length xp) ds) := fun wx hb => hkk.agree (hA wx hb)
  have HDl : Hid (∀ i, i < ds.length → (ds.getD i []).length ≤ 1048576) := fun i hi => by
    have hq := hz.2.2
    have h1 := pre_succ List.length ds i hi
    have h2 := pre_le List.length ds (i + 1)
    have e1 : ds.getD i [] = ds[i] := by simp [List.getD_eq_getElem?_getD, hi]
    rw [e1]
    simp only at hq
    unfold szK at hq
    omega
  have HPut : Hid (goodB d vv 1 = true → ∀ wx (a : Option Addr) (c : Nat) (zs : List Int), Below w.heap.size w wx → Seg wx a zs → (a = none → c = 0) → zs.length + 60 * partsV d vv ≤ 1000000 → Calls Tryz.prog 35 #[.slice a zs.length c, .agg #[.int .i64 bk, .int .i64 bn, .slice a2 l2 p2, .slice a3 l3 p3, .slice a4 l4 p4]] wx fun e w' => ∃ u, e = .returned u ∧ Bts w' wx.heap.size u (bytV d vv zs) ∧ Below wx.heap.size wx w') := fun gd wx a c zs hb hs hn hl => l2put_any d N a c zs (.int .i64 bk, .int .i64 bn, .slice a2 l2 p2, .slice a3 l3 p3, .slice a4 l4 p4) vv 1 wx (VSeg.agree (hA wx hb) d hv) (by have := hb.size; omega) hs hn gd hl
  obtain ⟨hk0, hk6, hhd, hre⟩ := ev_parts hev
  have hgd := rest_map hre
  have HFew := hide' (rest_few hre)
  clear h hsa hral hv hkk hA hz hac hac2 hev hhd hre
  show Calls _ _ _ _ fun e w' => PEnd w (evBy d kk ad jj vv ds) e w'
  obtain rfl | rfl | rfl | rfl | rfl | rfl | rfl : kk = 0 ∨ kk = 1 ∨ kk = 2 ∨ kk = 3 ∨ kk = 4 ∨ kk = 5 ∨ kk = 6 := by omega
  ·
    clear hk0 hk6
    clear HFew hgd
    have H1 : Hid (∀ wx, Calls Tryz.prog 33 #[.slice none 0 0, .int .i64 0] wx (PEnd wx (putNum [] 0))) := fun wx => spec_PutNum_end none 0 [] 0 wx ⟨by simp, .inl rfl⟩ (fun _ => rfl) (by simp)
    have ln1 := putNum_len [] 0
    simp only [List.length_nil] at ln1
    go_enter Tryz.func17, Tryz.ntmps17
    go_wp2_with fail
    refine (H1.out _).mono ?_
    rintro e w1 ⟨y1, c1, rfl, hB1, b1, k1⟩
    have hb := hide' (Below.on (HA.out _) b1)
    have hX := hide' (Hbox.out _ _ b1)
    have hY := hide' (hB1.mono (base' := w.heap.size) (by simp))
    clear b1 hB1 H1
    obtain ⟨g0, g1, g2, g3, g4, g5, g6, g7, g8⟩ := ev_row hX.out
    have hfin : evBy d 0 ad jj vv ds = putNum [] 0 := by simp [evBy]
    have HF := hide' hfin
    clear hfin
    generalize putNum [] 0 = z1 at *
    go_wp2
    go_ret
    rw [HF.out]
    exact ⟨_, _, rfl, hY.out, hb.out, k1⟩
  ·
    clear hk0 hk6
    clear HFew hgd
    have H1 : Hid (∀ wx, Calls Tryz.prog 33 #[.slice none 0 0, .int .i64 1] wx (PEnd wx (putNum [] 1))) := fun wx => spec_PutNum_end none 0 [] 1 wx ⟨by simp, .inl rfl⟩ (fun _ => rfl) (by simp)
    have ln1 := putNum_len [] 1
    simp only [List.length_nil] at ln1
    go_enter Tryz.func17, Tryz.ntmps17
    go_wp2_with fail
    refine (H1.out _).mono ?_
    rintro e w1 ⟨y1, c1, rfl, hB1, b1, k1⟩
    have hb := hide' (Below.on (HA.out _) b1)
    have hX := hide' (Hbox.out _ _ b1)
    have hY := hide' (hB1.mono (base' := w.heap.size) (by simp))
    clear b1 hB1 H1
    obtain ⟨g0, g1, g2, g3, g4, g5, g6, g7, g8⟩ := ev_row hX.out
    have HF : Hid (evBy d 1 ad jj vv ds = putNum (putText (putNum [] 1) ad) jj) := by show _ = _; simp [evBy]
    generalize putNum [] 1 = z1 at *
    have H2 := hide' (spec_PutText_end y1 na c1 np z1 ad w1 hY.out.seg (HSa.out _ hb.out) k1 hna (by omega) (by omega))
    have ln2 := putText_len z1 ad
    have hb1 := hb
    go_wp2_with fail
    refine H2.out.mono ?_
    rintro e w2 ⟨y2, c2, rfl, hB2, b2, k2⟩
    replace hb := hide' (Below.on hb.out b2)
    replace hX := hide' ((b2.block _ (Array.getElem?_eq_some_iff.1 hX.out).1).trans hX.out)
    replace hY := hide' (hB2.mono (base' := w.heap.size) hb1.out.size)
    clear b2 hB2 H2 hb1 g0 g1 g2 g3 g4 g5 g6 g7 g8
    obtain ⟨g0, g1, g2, g3, g4, g5, g6, g7, g8⟩ := ev_row hX.out
    generalize putText z1 ad = z2 at *
    have H3 := hide' (spec_PutNum_end y2 c2 z2 jj w2 hY.out.seg k2 (by omega))
    have HB2 := hb
    go_wp2_with fail
    refine H3.out.mono ?_
    rintro e w3 ⟨y3, c3, rfl, hB3, b3, k3⟩
    have hfe := hide' (pend_up HB2.out ⟨y3, c3, rfl, hB3, b3, k3⟩)
    have hfe := hide' (pend_up HB2.out ⟨y3, c3, rfl, hB3, b3, k3⟩)
    clear b3 hB3 H3
    go_wp2
    go_ret
    rw [HF.out]
    exact hfe.out
  ·
    clear hk0 hk6
    have hds := HFew.out rfl
    obtain ⟨gd, gp⟩ := hgd rfl
    clear HFew hgd
    have H1 : Hid (∀ wx, Calls Tryz.prog 33 #[.slice none 0 0, .int .i64 2] wx (PEnd wx (putNum [] 2))) := fun wx => spec_PutNum_end none 0 [] 2 wx ⟨by simp, .inl rfl⟩ (fun _ => rfl) (by simp)
    have ln1 := putNum_len [] 2
    simp only [List.length_nil] at ln1
    go_enter Tryz.func17, Tryz.ntmps17
    go_wp2_with fail
    refine (H1.out _).mono ?_
    rintro e w1 ⟨y1, c1, rfl, hB1, b1, k1⟩
    have hb := hide' (Below.on (HA.out _) b1)
    have hX := hide' (Hbox.out _ _ b1)
    have hY := hide' (hB1.mono (base' := w.heap.size) (by simp))
    clear b1 hB1 H1
    obtain ⟨g0, g1, g2, g3, g4, g5, g6, g7, g8⟩ := ev_row hX.out
    have HF : Hid (evBy d 2 ad jj vv ds = bytV d vv (depB (putNum (putText (putNum [] 2) ad) ds.length) ds ds.length)) := by show _ = _; simp [evBy]
    generalize putNum [] 2 = z1 at *
    have H2 := hide' (spec_PutText_end y1 na c1 np z1 ad w1 hY.out.seg (HSa.out _ hb.out) k1 hna (by omega) (by omega))
    have ln2 := putText_len z1 ad
    have hb1 := hb
    go_wp2_with fail
    refine H2.out.mono ?_
    rintro e w2 ⟨y2, c2, rfl, hB2, b2, k2⟩
    replace hb := hide' (Below.on hb.out b2)
    replace hX := hide' ((b2.block _ (Array.getElem?_eq_some_iff.1 hX.out).1).trans hX.out)
    replace hY := hide' (hB2.mono (base' := w.heap.size) hb1.out.size)
    clear b2 hB2 H2 hb1 g0 g1 g2 g3 g4 g5 g6 g7 g8
    obtain ⟨g0, g1, g2, g3, g4, g5, g6, g7, g8⟩ := ev_row hX.out
    generalize putText z1 ad = z2 at *
    have H3 := hide' (spec_PutNum_end y2 c2 z2 ds.length w2 hY.out.seg k2 (by omega))
    have ln3 := putNum_len z2 ds.length
    have hb1 := hb
    go_wp2_with fail
    refine H3.out.mono ?_
    rintro e w3 ⟨y3, c3, rfl, hB3, b3, k3⟩
    replace hb := hide' (Below.on hb.out b3)
    replace hX := hide' ((b3.block _ (Array.getElem?_eq_some_iff.1 hX.out).1).trans hX.out)
    have HLn : Hid (∀ k, k ≤ ds.length → (depB (putNum z2 ds.length) ds k).length ≤ 1000) := fun k hk => by have := depB_len (putNum z2 ds.length) ds k; omega
    have H0 : Hid (LpS w (.cells #[.int .i64 2, .slice na ad.length np, .int .i64 jj, .int .i64 bk, .int .i64 bn, .slice a2 l2 p2, .slice a3 l3 p3, .slice a4 l4 p4, .slice xa ds.length xp] 36) (putNum z2 ds.length) ds 0 (.slice y3 (putNum z2 ds.length).length c3) w3) := ⟨y3, c3, rfl, hB3.seg, k3, hb.out, hX.out⟩
    clear b3 hB3 H3 hb1 hY g0 g1 g2 g3 g4 g5 g6 g7 g8
    obtain ⟨-, -, -, -, -, -, -, -, g8⟩ := ev_row hX.out
    generalize putNum z2 ds.length = z3 at *
    go_wp2_with fail
    go_loopw [3, 4] (fun y i wr => ∃ k : Nat, k ≤ ds.length ∧ i = .int .i64 k ∧ Hid (LpS w (.cells #[.int .i64 2, .slice na ad.length np, .int .i64 jj, .int .i64 bk, .int .i64 bn, .slice a2 l2 p2, .slice a3 l3 p3, .slice a4 l4 p4, .slice xa ds.length xp] 36) z3 ds k y wr)) (fun _ i _ => ds.length - (intOf i).toNat)
    case atStart => exact ⟨0, Nat.zero_le _, rfl, H0⟩
    case round =>
      clear H0 g8 hX hb
      obtain ⟨k, hk, rfl, hS⟩ := hrel
      obtain ⟨ya, yc, rfl, hsg, kn, hbr, hXr⟩ := hS.out
      have hzl := HLn.out k hk
      obtain ⟨g0, g1, g2, g3, g4, g5, g6, g7, g8⟩ := ev_row hXr
      have hX := hide' hXr
      have hb := hide' hbr
      have hsz : w.heap.size ≤ wr.heap.size := hbr.size
      by_cases hlt : k < ds.length
      rotate_left
      · have hkn : k = ds.length := by omega
        have hlt' : ¬ (k : Int) < (ds.length : Int) := by omega
        have HF2 : Hid (evBy d 2 ad jj vv ds = bytV d vv (depB z3 ds k)) := by show _ = _; rw [HF.out, hkn]
        have HP := hide' (HPut.out gd wr ya yc (depB z3 ds k) hbr hsg kn (by omega))
        generalize depB z3 ds k = zk at *
        clear hkn hS hsg hbr hXr HF
        go_wp2_with fail
        refine HP.out.mono ?_
        rintro e w4 ⟨u, rfl, hB4, b4⟩
        obtain ⟨ua, uc, rfl, -, -, -, -, hun⟩ := hB4.shape
        have hfe : Hid (PEnd w (bytV d vv zk) (.returned (.slice ua (bytV d vv zk).length uc)) w4) := ⟨ua, uc, rfl, hB4.mono hsz, Below.on hb.out b4, hun⟩
        clear b4 hB4 HP
        go_wp2
        go_ret
        rw [HF2.out]
        exact hfe.out
      have hlt' : (k : Int) < (ds.length : Int) := by omega
      obtain ⟨kb, off, rfl, hat⟩ := (HKs.out wr hbr).full hlt
      obtain ⟨e2, f2, hu, s2, l2', m2, kk2⟩ := hat k hlt
      have hdl := HDl.out k hlt
      have HN : Hid (depB z3 ds (k + 1) = putText (depB z3 ds k) (ds.getD k [])) := rfl
      have HP := hide' (spec_PutText_end ya e2 yc f2 (depB z3 ds k) (ds.getD k []) wr hsg s2 kn kk2 (by omega) (by omega))
      generalize hzk : depB z3 ds k = zk at *
      generalize hdk : ds.getD k [] = dk at *
      clear hat hS hsg hbr hXr s2 hzk hdk
      go_wp2_with fail
      refine HP.out.mono ?_
      rintro e w4 ⟨ua, uc, rfl, hB4, b4, k4⟩
      have HL : Hid (LpS w (.cells #[.int .i64 2, .slice na ad.length np, .int .i64 jj, .int .i64 bk, .int .i64 bn, .slice a2 l2 p2, .slice a3 l3 p3, .slice a4 l4 p4, .slice (some ⟨kb, off, none⟩) ds.length xp] 36) z3 ds (k + 1) (.slice ua (putText zk dk).length uc) w4) := ⟨ua, uc, by rw [HN.out], by rw [HN.out]; exact hB4.seg, k4, Below.on hb.out b4, (b4.block _ (Array.getElem?_eq_some_iff.1 hX.out).1).trans hX.out⟩
      clear b4 hB4 HP
      go_wp2
      go_roundw
      case rel => exact ⟨k + 1, by omega, by go_num, HL⟩
      case measure => simp [intOf]; omega
  ·
    clear hk0 hk6
    clear HFew hgd
    have H1 : Hid (∀ wx, Calls Tryz.prog 33 #[.slice none 0 0, .int .i64 3] wx (PEnd wx (putNum [] 3))) := fun wx => spec_PutNum_end none 0 [] 3 wx ⟨by simp, .inl rfl⟩ (fun _ => rfl) (by simp)
    have ln1 := putNum_len [] 3
    simp only [List.length_nil] at ln1
    go_enter Tryz.func17, Tryz.ntmps17
    go_wp2_with fail
    refine (H1.out _).mono ?_
    rintro e w1 ⟨y1, c1, rfl, hB1, b1, k1⟩
    have hb := hide' (Below.on (HA.out _) b1)
    have hX := hide' (Hbox.out _ _ b1)
    have hY := hide' (hB1.mono (base' := w.heap.size) (by simp))
    clear b1 hB1 H1
    obtain ⟨g0, g1, g2, g3, g4, g5, g6, g7, g8⟩ := ev_row hX.out
    have HF : Hid (evBy d 3 ad jj vv ds = putText (putNum [] 3) ad) := by show _ = _; simp [evBy]
    generalize putNum [] 3 = z1 at *
    have H2 := hide' (spec_PutText_end y1 na c1 np z1 ad w1 hY.out.seg (HSa.out _ hb.out) k1 hna (by omega) (by omega))
    have ln2 := putText_len z1 ad
    have hb1 := hb
    go_wp2_with fail
    refine H2.out.mono ?_
    rintro e w2 ⟨y2, c2, rfl, hB2, b2, k2⟩
    replace hb := hide' (Below.on hb.out b2)
    replace hX := hide' ((b2.block _ (Array.getElem?_eq_some_iff.1 hX.out).1).trans hX.out)
    replace hY := hide' (hB2.mono (base' := w.heap.size) hb1.out.size)
    clear b2 hB2 H2 hb1 g0 g1 g2 g3 g4 g5 g6 g7 g8
    obtain ⟨g0, g1, g2, g3, g4, g5, g6, g7, g8⟩ := ev_row hX.out
    generalize putText z1 ad = z2 at *
    go_wp2
    go_ret
    rw [HF.out]
    exact ⟨_, _, rfl, hY.out, hb.out, k2⟩
  ·
    clear hk0 hk6
    clear HFew hgd
    have H1 : Hid (∀ wx, Calls Tryz.prog 33 #[.slice none 0 0, .int .i64 4] wx (PEnd wx (putNum [] 4))) := fun wx => spec_PutNum_end none 0 [] 4 wx ⟨by simp, .inl rfl⟩ (fun _ => rfl) (by simp)
    have ln1 := putNum_len [] 4
    simp only [List.length_nil] at ln1
    go_enter Tryz.func17, Tryz.ntmps17
    go_wp2_with fail
    refine (H1.out _).mono ?_
    rintro e w1 ⟨y1, c1, rfl, hB1, b1, k1⟩
    have hb := hide' (Below.on (HA.out _) b1)
    have hX := hide' (Hbox.out _ _ b1)
    have hY := hide' (hB1.mono (base' := w.heap.size) (by simp))
    clear b1 hB1 H1
    obtain ⟨g0, g1, g2, g3, g4, g5, g6, g7, g8⟩ := ev_row hX.out
    have HF : Hid (evBy d 4 ad jj vv ds = putText (putNum [] 4) ad) := by show _ = _; simp [evBy]
    generalize putNum [] 4 = z1 at *
    have H2 := hide' (spec_PutText_end y1 na c1 np z1 ad w1 hY.out.seg (HSa.out _ hb.out) k1 hna (by omega) (by omega))
    have ln2 := putText_len z1 ad
    have hb1 := hb
    go_wp2_with fail
    refine H2.out.mono ?_
    rintro e w2 ⟨y2, c2, rfl, hB2, b2, k2⟩
    replace hb := hide' (Below.on hb.out b2)
    replace hX := hide' ((b2.block _ (Array.getElem?_eq_some_iff.1 hX.out).1).trans hX.out)
    replace hY := hide' (hB2.mono (base' := w.heap.size) hb1.out.size)
    clear b2 hB2 H2 hb1 g0 g1 g2 g3 g4 g5 g6 g7 g8
    obtain ⟨g0, g1, g2, g3, g4, g5, g6, g7, g8⟩ := ev_row hX.out
    generalize putText z1 ad = z2 at *
    go_wp2
    go_ret
    rw [HF.out]
    exact ⟨_, _, rfl, hY.out, hb.out, k2⟩
  ·
    clear hk0 hk6
    clear HFew hgd
    have H1 : Hid (∀ wx, Calls Tryz.prog 33 #[.slice none 0 0, .int .i64 5] wx (PEnd wx (putNum [] 5))) := fun wx => spec_PutNum_end none 0 [] 5 wx ⟨by simp, .inl rfl⟩ (fun _ => rfl) (by simp)
    have ln1 := putNum_len [] 5
    simp only [List.length_nil] at ln1
    go_enter Tryz.func17, Tryz.ntmps17
    go_wp2_with fail
    refine (H1.out _).mono ?_
    rintro e w1 ⟨y1, c1, rfl, hB1, b1, k1⟩
    have hb := hide' (Below.on (HA.out _) b1)
    have hX := hide' (Hbox.out _ _ b1)
    have hY := hide' (hB1.mono (base' := w.heap.size) (by simp))
    clear b1 hB1 H1
    obtain ⟨g0, g1, g2, g3, g4, g5, g6, g7, g8⟩ := ev_row hX.out
    have hfin : evBy d 5 ad jj vv ds = putNum [] 5 := by simp [evBy]
    have HF := hide' hfin
    clear hfin
    generalize putNum [] 5 = z1 at *
    go_wp2
    go_ret
    rw [HF.out]
    exact ⟨_, _, rfl, hY.out, hb.out, k1⟩
  ·
    clear hk0 hk6
    clear HFew hgd
    have H1 : Hid (∀ wx, Calls Tryz.prog 33 #[.slice none 0 0, .int .i64 6] wx (PEnd wx (putNum [] 6))) := fun wx => spec_PutNum_end none 0 [] 6 wx ⟨by simp, .inl rfl⟩ (fun _ => rfl) (by simp)
    have ln1 := putNum_len [] 6
    simp only [List.length_nil] at ln1
    go_enter Tryz.func17, Tryz.ntmps17
    go_wp2_with fail
    refine (H1.out _).mono ?_
    rintro e w1 ⟨y1, c1, rfl, hB1, b1, k1⟩
    have hb := hide' (Below.on (HA.out _) b1)
    have hX := hide' (Hbox.out _ _ b1)
    have hY := hide' (hB1.mono (base' := w.heap.size) (by simp))
    clear b1 hB1 H1
    obtain ⟨g0, g1, g2, g3, g4, g5, g6, g7, g8⟩ := ev_row hX.out
    have hfin : evBy d 6 ad jj vv ds = putNum [] 6 := by simp [evBy]
    have HF := hide' hfin
    clear hfin
    generalize putNum [] 6 = z1 at *
    go_wp2
    go_ret
    rw [HF.out]
    exact ⟨_, _, rfl, hY.out, hb.out, k1⟩

set_option maxHeartbeats 3200000 in
set_option maxRecDepth 100000 in
theorem spec_EventBytes_any (d N : Nat) (cs : List Value) (it : Rcd d) (w : World) (h : RSg (fun b => b < N) w d cs it) (hN : N ≤ w.heap.size) (hz : RSz d it) :
    Calls Tryz.prog 5 #[.agg cs.toArray] w (EbEnd d it w) := by
  have HA : Hid (∀ o : Obj, Below w.heap.size w (w.alloc o)) := fun o => (Below.refl _ _).alloc (Nat.le_refl _) o
  have Hbox : Hid (∀ o wx, Below (w.alloc o).heap.size (w.alloc o) wx → wx.heap[w.heap.size]? = some o) := fun o wx h => box_row h
  have HC : Hid (∀ wx, Below w.heap.size w wx → Calls Tryz.prog 16 #[.agg cs.toArray] wx fun e w' => e = .returned (.bool (evB d it)) ∧ Below wx.heap.size wx w') := fun wx hb => spec_EventOk_any d N cs it wx (h.agree (agree_below (hb.mono hN))) (by have := hb.size; omega)
  have HL : Hid (evB d it = true → ∀ wx, Below w.heap.size w wx → Calls Tryz.prog 17 #[.agg cs.toArray] wx (PEnd wx (evBytes d it))) := fun hev wx hb => by
    have h1 := l4bytes_any d N cs it wx (h.agree (agree_below (hb.mono hN))) (by have := hb.size; omega) hz hev
    unfold evBytes
    rw [if_pos hev]
    exact h1
  have HNo : Hid (evB d it = false → evBytes d it = []) := fun h => evBytes_no h
  obtain ⟨na, np, bk, bn, a2, l2, p2, a3, l3, p3, a4, l4, p4, xa, xp, rfl, -, -, -⟩ := h.form
  show Calls _ _ _ _ fun e w' => EbEnd d it w e w'
  unfold EbEnd
  generalize evBytes d it = zs at *
  generalize evB d it = ok at *
  clear hz h
  obtain ⟨kk, ad, jj, vv, ds⟩ := it
  simp only at HC HL ⊢
  generalize ds.length = dl at *
  generalize ad.length = al at *
  cases ok with
  | false =>
    have HZ := hide' (HNo.out rfl)
    go_enter Tryz.func5, Tryz.ntmps5
    go_wp2_with fail
    refine (HC.out _ (HA.out _)).mono ?_
    rintro e w1 ⟨rfl, b1⟩
    have B1 := hide' (Below.on (HA.out _) b1)
    clear b1
    go_wp2
    go_ret2
    rw [HZ.out]
    exact ⟨none, 0, rfl, bts_nil _ _, B1.out⟩
  | true =>
    have HL2 := hide' (HL.out rfl)
    go_enter Tryz.func5, Tryz.ntmps5
    go_wp2_with fail
    refine (HC.out _ (HA.out _)).mono ?_
    rintro e w1 ⟨rfl, b1⟩
    have hX := hide' (Hbox.out _ _ b1)
    have B1 := hide' (Below.on (HA.out _) b1)
    have HL3 := hide' (HL2.out _ B1.out)
    obtain ⟨g0, g1, g2, g3, g4, g5, g6, g7, g8⟩ := ev_row hX.out
    clear b1 HC HL HL2
    go_wp2_with fail
    refine HL3.out.mono ?_
    rintro e w2 ⟨ra, rc, rfl, hB, b2, -⟩
    have B2 := hide' (Below.on B1.out b2)
    have HB := hide' (hB.mono (base' := w.heap.size) B1.out.size)
    clear b2 hB HL3
    go_wp2
    go_ret2
    exact ⟨ra, rc, rfl, HB.out, B2.out⟩
end Go.Proofs.YteeplidoojeddaaGreatDoor
/-
  actOk and hasAddr of the program.
-/
namespace Go.Proofs.YteeplidoojeddaaGreatDoor
open Go.RowKit
set_option linter.unusedVariables false
set_option linter.unusedSimpArgs false

set_option maxHeartbeats 1600000 in
theorem actOk_any (k : Int) (w : World) : Calls Tryz.prog 51 #[.int .i64 k] w fun e w' => e = .returned (.bool (decide (1 ≤ k) && decide (k ≤ 4))) ∧ w = w' := by
  by_cases h1 : 1 ≤ k
  · by_cases h4 : k ≤ 4
    · go_enter Tryz.func51, Tryz.ntmps51
      go_wp2
      go_ret
      exact ⟨by simp [h1, h4], rfl⟩
    · go_enter Tryz.func51, Tryz.ntmps51
      go_wp2
      go_ret
      exact ⟨by simp [h1, h4], rfl⟩
  · go_enter Tryz.func51, Tryz.ntmps51
    go_wp2
    go_ret
    exact ⟨by rw [decide_eq_false (p := 1 ≤ k) (by omega)]; rfl, rfl⟩
set_option maxHeartbeats 1600000 in
theorem hasAddr_any (k : Int) (w : World) : Calls Tryz.prog 41 #[.int .i64 k] w fun e w' => e = .returned (.bool (decide (1 ≤ k) && decide (k ≤ 4))) ∧ w = w' := by
  by_cases h1 : 1 ≤ k
  · by_cases h4 : k ≤ 4
    · go_enter Tryz.func41, Tryz.ntmps41
      go_wp2
      go_ret
      exact ⟨by simp [h1, h4], rfl⟩
    · go_enter Tryz.func41, Tryz.ntmps41
      go_wp2
      go_ret
      exact ⟨by simp [h1, h4], rfl⟩
  · go_enter Tryz.func41, Tryz.ntmps41
    go_wp2
    go_ret
    exact ⟨by rw [decide_eq_false (p := 1 ≤ k) (by omega)]; rfl, rfl⟩
end Go.Proofs.YteeplidoojeddaaGreatDoor
