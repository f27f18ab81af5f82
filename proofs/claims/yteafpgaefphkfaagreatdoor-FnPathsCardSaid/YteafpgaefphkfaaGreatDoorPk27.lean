/-
  Texts that a law leans on, one behind the other; no statement is proved here.
-/
import Derived.Test.YteafpgaefphkfaaGreatDoorPk26
import Derived.Test.YteafpgaefphkfaaGreatDoorPk14
/-
  ValBytes of the specification: l2put of lists and maps, of all; ValBytes.
-/
namespace Go.Proofs.YteafpgaefphkfaaGreatDoor
open Go.RowKit
set_option linter.unusedVariables false
set_option linter.unusedSimpArgs false

theorem kid_list (d : Nat) (K : List (List Int)) (L : List (Vl d)) (b : List Int) (k : Nat) (h : k < L.length) : kidB (fun x b => bytV d x b) false K L b (k + 1) = bytV d L[k] (kidB (fun x b => bytV d x b) false K L b k) := by
  rw [kidB_succ _ _ _ _ _ _ h]; rfl
theorem kid_map (d : Nat) (K : List (List Int)) (L : List (Vl d)) (b : List Int) (k : Nat) (h : k < L.length) : kidB (fun x b => bytV d x b) true K L b (k + 1) = bytV d L[k] (putText (kidB (fun x b => bytV d x b) true K L b k) (K.getD k [])) := by
  rw [kidB_succ _ _ _ _ _ _ h]; rfl
theorem kid_room (d : Nat) (m : Bool) (K : List (List Int)) (L : List (Vl d)) (b : List Int) (M : Nat) (hM : b.length + 60 * pre (partsV d) L L.length + 25 ≤ M) (k : Nat) (h : k < L.length) : (kidB (fun x b => bytV d x b) m K L b k).length + 25 + 60 * partsV d L[k] ≤ M := by
  have h1 := kidB_len (fun x b => bytV d x b) (partsV d) (fun x b => bytV_len d x b) m K L b k (by omega)
  have h3 := pre_succ (partsV d) L k h
  have h4 := pre_le (partsV d) L (k + 1)
  have h5 := pre_all (partsV d) L
  omega

set_option maxHeartbeats 3000000 in
set_option maxRecDepth 100000 in
theorem l2put_list (d : Nat) (ih : SByAt d) (N : Nat) (a : Option Addr) (cap : Nat) (xs : List Int) (vn : Int) (vs : List Int) (vK : List (List Int)) (vL : List (Vl d)) (a2 : Option Addr) (l2 p2 : Nat) (a3 : Option Addr) (p3 : Nat) (a4 : Option Addr) (p4 : Nat) (deep : Nat) (w : World) (hN : N ≤ w.heap.size) (hs : Seg w a xs) (ka : a = none → cap = 0)
    (hl : LSeg (fun b => b < N) w d (.slice a4 vL.length p4) vL) (hk : KSeg (fun b => b < N) w (.slice a3 vK.length p3) vK) (hkl : True) (hkt : ∀ j, j < vK.length → (vK.getD j []).length ≤ 1000) (hg : ∀ j (h : j < vL.length), goodB d vL[j] deep = true) (hn : vL.length ≤ 9223372036854775807) (hlen : xs.length + 60 * (1 + pre (partsV d) vL vL.length) ≤ 1000000) :
    Calls Tryz.prog 47 #[.slice a xs.length cap, .agg #[.int .i64 4, .int .i64 vn, .slice a2 l2 p2, .slice a3 vK.length p3, .slice a4 vL.length p4]] w fun e w' => ∃ u, e = .returned u ∧ Bts w' w.heap.size u (bytV (d + 1) (4, vn, vs, vK, vL) xs) ∧ Below w.heap.size w w' := by
  have b0 : ∀ o : Obj, Below w.heap.size w (w.alloc o) := fun o => (Below.refl _ _).alloc (Nat.le_refl _) o
  have Hb := hide' b0
  have HL := hide' hl
  have HK := hide' hk
  have HI := hide' ih
  have HG := hide' hg
  have HKL := hide' hkl
  have HKT := hide' hkt
  have H1 : Hid (∀ o : Obj, Calls Tryz.prog 58 #[.slice a xs.length cap, .int .i64 4] (w.alloc o) (PEnd (w.alloc o) (putNum xs 4))) := fun o => spec_PutNum_end a cap xs 4 _ (hs.grow (b0 o)) ka (by omega)
  have hpl := putNum_len xs 4
  have hpl2 := putNum_len (putNum xs 4) vL.length
  obtain ⟨B0, hB0⟩ : ∃ B0, B0 = putNum (putNum xs 4) vL.length := ⟨_, rfl⟩
  rw [← hB0] at hpl2
  have HRoom : Hid (∀ k (h : k < vL.length), (kidB (fun x b => bytV d x b) false vK vL B0 k).length + 25 + 60 * partsV d vL[k] ≤ 1000000) := fun k h => kid_room d false vK vL B0 1000000 (by omega) k h
  have HF : Hid (bytV (d + 1) (4, vn, vs, vK, vL) xs = kidB (fun x b => bytV d x b) false vK vL B0 vL.length) := by show _ = _; rw [hB0]; exact bytV_list d vn vs vK vL xs
  have HSt : Hid (∀ k (h : k < vL.length), kidB (fun x b => bytV d x b) false vK vL B0 (k + 1) = bytV d vL[k] (kidB (fun x b => bytV d x b) false vK vL B0 k)) := fun k h => kid_list d vK vL B0 k h
  have HZ : Hid (kidB (fun x b => bytV d x b) false vK vL B0 0 = B0) := rfl
  generalize hkid : kidB (fun x b => bytV d x b) false vK vL B0 = kid at *
  have hP2 : Hid (∀ (a1 : Option Addr) (c1 : Nat) (wx : World), Bts wx 0 (.slice a1 (putNum xs 4).length c1) (putNum xs 4) → (a1 = none → c1 = 0) → Calls Tryz.prog 58 #[.slice a1 (putNum xs 4).length c1, .int .i64 vL.length] wx (PEnd wx B0)) := fun a1 c1 wx hB k => by rw [hB0]; exact spec_PutNum_end a1 c1 _ _ wx hB.seg k (by omega)
  obtain ⟨ob, HOb⟩ : ∃ ob, Hid (ob = Obj.cells #[.int .i64 4, .int .i64 vn, .slice a2 l2 p2, .slice a3 vK.length p3, .slice a4 vL.length p4] 29) := ⟨_, rfl⟩
  clear b0 hs hl hk hg ih hlen hkid hB0 hkl hkt
  go_enter Tryz.func47, Tryz.ntmps47
  go_wp2_with fail
  refine (H1.out _).mono ?_
  rintro e w1 ⟨a1, c1, rfl, hB1, b1, k1⟩
  obtain ⟨y0, y1, y2, y3, y4, _⟩ := row5 (box_row b1)
  have Bb1 : Hid (Below (w.alloc ob).heap.size (w.alloc ob) w1) := by rw [HOb.out]; exact b1
  have H2 := hide' (hP2.out a1 c1 w1 (hB1.mono (by omega)) k1)
  generalize (putNum xs 4).length = n1 at *
  clear b1 hB1 hP2
  go_wp2_with fail
  refine H2.out.mono ?_
  rintro e w2 ⟨a2', c2', rfl, hB2, b2, k2'⟩
  clear y0 y1 y2 y3 y4
  have Bb2 : Hid (Below (w.alloc ob).heap.size (w.alloc ob) w2) := Below.on Bb1.out b2
  have hrow := box_row Bb2.out
  rw [HOb.out] at hrow
  obtain ⟨y0, y1, y2, y3, y4, _⟩ := row5 hrow
  have HB2 : Hid (Bts w2 w.heap.size (.slice a2' B0.length c2') B0) := hB2.mono (by have := Bb1.out.size; simp at this; omega)
  generalize hn0 : B0.length = n0 at *
  clear b2 hB2 H2 hrow hn0
  go_wp2
  go_loopw [0, 7] (fun y i wr => ∃ k : Nat, k ≤ vL.length ∧ i = .int .i64 k ∧ Hid (Bts wr w.heap.size y (kid k)) ∧ Hid (Below (w.alloc ob).heap.size (w.alloc ob) wr)) (fun _ i _ => vL.length - (intOf i).toNat)
  case atStart => exact ⟨0, Nat.zero_le _, rfl, by rw [HZ.out]; exact HB2, Bb2⟩
  case round =>
    clear y0 y1 y2 y3 y4
    obtain ⟨k, hk, rfl, hB, hbel⟩ := hrel
    have hrow := box_row hbel.out
    rw [HOb.out] at hrow
    obtain ⟨y0, y1, y2, y3, y4, _⟩ := row5 hrow
    have B := Below.on (Hb.out ob) hbel.out
    clear hrow
    obtain ⟨ya, yc, rfl, _, _, _, _, kk⟩ := hB.out.shape
    by_cases hlt : k < vL.length
    · have hlt' : (k : Int) < (vL.length : Int) := by omega
      have hroom := HRoom.out k hlt
      obtain ⟨b, off, c, rfl, h5', hv⟩ := HL.out.at B hN hlt
      have HV := hide' hv
      obtain ⟨c0, c1', c2, c3, c4⟩ := c
      obtain ⟨q0, q1, q2, q3, q4⟩ := h5'
      simp only at q0 q1 q2 q3 q4
      have hz := B.size
      have HC := hide' (HI.out N ya yc (kid k) (c0, c1', c2, c3, c4) vL[k] deep wr (HV.out wr B) (by omega) hB.out.seg kk (HG.out k hlt) (by omega))
      rw [← HSt.out k hlt] at HC
      generalize (kid k).length = n2 at *
      clear hv hB
      go_wp2_with fail
      refine HC.out.mono ?_
      rintro e w3 ⟨u, rfl, hB3, b3⟩
      have B3 : Hid (Below (w.alloc ob).heap.size (w.alloc ob) w3) := Below.on hbel.out b3
      have HB3 : Hid (Bts w3 w.heap.size u (kid (k + 1))) := hB3.mono (by omega)
      obtain ⟨ya3, yc3, hu, _, _, _, _, _⟩ := hB3.shape
      generalize (kid (k + 1)).length = n3 at *
      subst hu
      clear q0 q1 q2 q3 q4 b3 HC hB3
      go_wp2
      go_roundw
      case rel => exact ⟨k + 1, by omega, by go_num, HB3, B3⟩
      case measure => simp [intOf]; omega
    · have hkn : k = vL.length := by omega
      have hlt' : ¬ (k : Int) < (vL.length : Int) := by omega
      have HE : Hid (Bts wr w.heap.size (.slice ya (kid k).length yc) (bytV (d + 1) (4, vn, vs, vK, vL) xs)) := by rw [HF.out, ← hkn]; exact hB
      clear hkn hB
      generalize (kid k).length = n1' at *
      go_wp2
      go_ret
      exact ⟨_, rfl, HE.out, B⟩

set_option maxHeartbeats 3000000 in
set_option maxRecDepth 100000 in
theorem l2put_map (d : Nat) (ih : SByAt d) (N : Nat) (a : Option Addr) (cap : Nat) (xs : List Int) (vn : Int) (vs : List Int) (vK : List (List Int)) (vL : List (Vl d)) (a2 : Option Addr) (l2 p2 : Nat) (a3 : Option Addr) (p3 : Nat) (a4 : Option Addr) (p4 : Nat) (deep : Nat) (w : World) (hN : N ≤ w.heap.size) (hs : Seg w a xs) (ka : a = none → cap = 0)
    (hl : LSeg (fun b => b < N) w d (.slice a4 vL.length p4) vL) (hk : KSeg (fun b => b < N) w (.slice a3 vK.length p3) vK) (hkl : vK.length = vL.length) (hkt : ∀ j, j < vK.length → (vK.getD j []).length ≤ 1000) (hg : ∀ j (h : j < vL.length), goodB d vL[j] deep = true) (hn : vL.length ≤ 9223372036854775807) (hlen : xs.length + 60 * (1 + pre (partsV d) vL vL.length) ≤ 1000000) :
    Calls Tryz.prog 47 #[.slice a xs.length cap, .agg #[.int .i64 5, .int .i64 vn, .slice a2 l2 p2, .slice a3 vK.length p3, .slice a4 vL.length p4]] w fun e w' => ∃ u, e = .returned u ∧ Bts w' w.heap.size u (bytV (d + 1) (5, vn, vs, vK, vL) xs) ∧ Below w.heap.size w w' := by
  have b0 : ∀ o : Obj, Below w.heap.size w (w.alloc o) := fun o => (Below.refl _ _).alloc (Nat.le_refl _) o
  have Hb := hide' b0
  have HL := hide' hl
  have HK := hide' hk
  have HI := hide' ih
  have HG := hide' hg
  have HKL := hide' hkl
  have HKT := hide' hkt
  have H1 : Hid (∀ o : Obj, Calls Tryz.prog 58 #[.slice a xs.length cap, .int .i64 5] (w.alloc o) (PEnd (w.alloc o) (putNum xs 5))) := fun o => spec_PutNum_end a cap xs 5 _ (hs.grow (b0 o)) ka (by omega)
  have hpl := putNum_len xs 5
  have hpl2 := putNum_len (putNum xs 5) vL.length
  obtain ⟨B0, hB0⟩ : ∃ B0, B0 = putNum (putNum xs 5) vL.length := ⟨_, rfl⟩
  rw [← hB0] at hpl2
  have HRoom : Hid (∀ k (h : k < vL.length), (kidB (fun x b => bytV d x b) true vK vL B0 k).length + 25 + 60 * partsV d vL[k] ≤ 1000000) := fun k h => kid_room d true vK vL B0 1000000 (by omega) k h
  have HF : Hid (bytV (d + 1) (5, vn, vs, vK, vL) xs = kidB (fun x b => bytV d x b) true vK vL B0 vL.length) := by show _ = _; rw [hB0]; exact bytV_map d vn vs vK vL xs
  have HSt : Hid (∀ k (h : k < vL.length), kidB (fun x b => bytV d x b) true vK vL B0 (k + 1) = bytV d vL[k] (putText (kidB (fun x b => bytV d x b) true vK vL B0 k) (vK.getD k []))) := fun k h => kid_map d vK vL B0 k h
  have HZ : Hid (kidB (fun x b => bytV d x b) true vK vL B0 0 = B0) := rfl
  generalize hkid : kidB (fun x b => bytV d x b) true vK vL B0 = kid at *
  have hP2 : Hid (∀ (a1 : Option Addr) (c1 : Nat) (wx : World), Bts wx 0 (.slice a1 (putNum xs 5).length c1) (putNum xs 5) → (a1 = none → c1 = 0) → Calls Tryz.prog 58 #[.slice a1 (putNum xs 5).length c1, .int .i64 vL.length] wx (PEnd wx B0)) := fun a1 c1 wx hB k => by rw [hB0]; exact spec_PutNum_end a1 c1 _ _ wx hB.seg k (by omega)
  obtain ⟨ob, HOb⟩ : ∃ ob, Hid (ob = Obj.cells #[.int .i64 5, .int .i64 vn, .slice a2 l2 p2, .slice a3 vK.length p3, .slice a4 vL.length p4] 29) := ⟨_, rfl⟩
  clear b0 hs hl hk hg ih hlen hkid hB0 hkl hkt
  go_enter Tryz.func47, Tryz.ntmps47
  go_wp2_with fail
  refine (H1.out _).mono ?_
  rintro e w1 ⟨a1, c1, rfl, hB1, b1, k1⟩
  obtain ⟨y0, y1, y2, y3, y4, _⟩ := row5 (box_row b1)
  have Bb1 : Hid (Below (w.alloc ob).heap.size (w.alloc ob) w1) := by rw [HOb.out]; exact b1
  have H2 := hide' (hP2.out a1 c1 w1 (hB1.mono (by omega)) k1)
  generalize (putNum xs 5).length = n1 at *
  clear b1 hB1 hP2
  go_wp2_with fail
  refine H2.out.mono ?_
  rintro e w2 ⟨a2', c2', rfl, hB2, b2, k2'⟩
  clear y0 y1 y2 y3 y4
  have Bb2 : Hid (Below (w.alloc ob).heap.size (w.alloc ob) w2) := Below.on Bb1.out b2
  have hrow := box_row Bb2.out
  rw [HOb.out] at hrow
  obtain ⟨y0, y1, y2, y3, y4, _⟩ := row5 hrow
  have HB2 : Hid (Bts w2 w.heap.size (.slice a2' B0.length c2') B0) := hB2.mono (by have := Bb1.out.size; simp at this; omega)
  generalize hn0 : B0.length = n0 at *
  clear b2 hB2 H2 hrow hn0
  go_wp2
  go_loopw [0, 7] (fun y i wr => ∃ k : Nat, k ≤ vL.length ∧ i = .int .i64 k ∧ Hid (Bts wr w.heap.size y (kid k)) ∧ Hid (Below (w.alloc ob).heap.size (w.alloc ob) wr)) (fun _ i _ => vL.length - (intOf i).toNat)
  case atStart => exact ⟨0, Nat.zero_le _, rfl, by rw [HZ.out]; exact HB2, Bb2⟩
  case round =>
    clear y0 y1 y2 y3 y4
    obtain ⟨k, hk, rfl, hB, hbel⟩ := hrel
    have hrow := box_row hbel.out
    rw [HOb.out] at hrow
    obtain ⟨y0, y1, y2, y3, y4, _⟩ := row5 hrow
    have B := Below.on (Hb.out ob) hbel.out
    clear hrow
    obtain ⟨ya, yc, rfl, _, _, _, _, kk⟩ := hB.out.shape
    by_cases hlt : k < vL.length
    · have hlt' : (k : Int) < (vL.length : Int) := by omega
      have hroom := HRoom.out k hlt
      obtain ⟨b, off, c, rfl, h5', hv⟩ := HL.out.at B hN hlt
      have HV := hide' hv
      obtain ⟨c0, c1', c2, c3, c4⟩ := c
      obtain ⟨q0, q1, q2, q3, q4⟩ := h5'
      simp only at q0 q1 q2 q3 q4
      have hz := B.size
      have hlt3 : k < vK.length := by rw [HKL.out]; exact hlt
      have hlt3' : (k : Int) < (vK.length : Int) := by omega
      obtain ⟨bk, ok, rfl, hkc⟩ := (HK.out.agree (agree_below (B.mono hN))).at hlt3
      obtain ⟨ta, tc, qk, sk, mk⟩ := hkc k hlt3
      have ktc : ta = none → tc = 0 := (KSeg.none_at (HK.out.agree (agree_below (B.mono hN))) hlt3 qk)
      have HT := hide' (spec_PutText_end ya ta yc tc (kid k) (vK.getD k []) wr hB.out.seg sk kk ktc (by omega) (by have := HKT.out k hlt3; omega))
      have hptl := putText_len (kid k) (vK.getD k [])
      have HS1 := HSt.out k hlt
      obtain ⟨ts, hts⟩ : ∃ ts, ts = vK.getD k [] := ⟨_, rfl⟩
      rw [← hts] at HT qk hptl HS1
      obtain ⟨zz, hzz⟩ : ∃ zz, zz = putText (kid k) ts := ⟨_, rfl⟩
      rw [← hzz] at HT hptl HS1
      have HI2 : Hid (∀ (ua : Option Addr) (uc : Nat) (wx : World), Below w.heap.size w wx → Bts wx wr.heap.size (.slice ua zz.length uc) zz → (ua = none → uc = 0) → Calls Tryz.prog 47 #[.slice ua zz.length uc, .agg #[c0, c1', c2, c3, c4]] wx fun e w' => ∃ u, e = .returned u ∧ Bts w' wx.heap.size u (kid (k + 1)) ∧ Below wx.heap.size wx w') := fun ua uc wx hb hB' hk' => by
        rw [HS1]
        exact HI.out N ua uc zz (c0, c1', c2, c3, c4) vL[k] deep wx (HV.out wx hb) (by have := hb.size; omega) hB'.seg hk' (HG.out k hlt) (by omega)
      have hq : Hid (∀ wx, Below w.heap.size w wx → Five wx b (off + k * 5) (c0, c1', c2, c3, c4)) := fun wx hb => five_same HL.out hb B hN hlt ⟨q0, q1, q2, q3, q4⟩
      generalize (kid k).length = n2 at *
      generalize ts.length = n4 at *
      clear hv hB sk mk hkc hts hzz HS1 q0 q1 q2 q3 q4
      go_wp2_with fail
      refine HT.out.mono ?_
      rintro e w3 ⟨ua, uc, rfl, hB3, b3, k3⟩
      clear y0 y1 y2 y3 y4
      have B3 : Hid (Below (w.alloc ob).heap.size (w.alloc ob) w3) := Below.on hbel.out b3
      have B3' := Below.on B b3
      have hrow := box_row B3.out
      rw [HOb.out] at hrow
      obtain ⟨y0, y1, y2, y3, y4, _⟩ := row5 hrow
      obtain ⟨q0, q1, q2, q3, q4⟩ := hq.out w3 B3'
      simp only at q0 q1 q2 q3 q4
      have HC := hide' (HI2.out ua uc w3 B3' hB3 k3)
      have hz3 := B3'.size
      generalize zz.length = n5 at *
      clear b3 hB3 hrow HI2 HT qk
      go_wp2_with fail
      refine HC.out.mono ?_
      rintro e w4 ⟨u, rfl, hB4, b4⟩
      have B4 : Hid (Below (w.alloc ob).heap.size (w.alloc ob) w4) := Below.on B3.out b4
      have HB4 : Hid (Bts w4 w.heap.size u (kid (k + 1))) := hB4.mono (by omega)
      obtain ⟨ya4, yc4, hu, _, _, _, _, _⟩ := hB4.shape
      generalize (kid (k + 1)).length = n3 at *
      subst hu
      clear q0 q1 q2 q3 q4 b4 HC hB4
      go_wp2
      go_roundw
      case rel => exact ⟨k + 1, by omega, by go_num, HB4, B4⟩
      case measure => simp [intOf]; omega
    · have hkn : k = vL.length := by omega
      have hlt' : ¬ (k : Int) < (vL.length : Int) := by omega
      have HE : Hid (Bts wr w.heap.size (.slice ya (kid k).length yc) (bytV (d + 1) (5, vn, vs, vK, vL) xs)) := by rw [HF.out, ← hkn]; exact hB
      clear hkn hB
      generalize (kid k).length = n1' at *
      go_wp2
      go_ret
      exact ⟨_, rfl, HE.out, B⟩
end Go.Proofs.YteafpgaefphkfaaGreatDoor
