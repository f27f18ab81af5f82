/-
  Texts that a law leans on, one behind the other; no statement is proved here.
-/
import Derived.Test.YthgcljefmkiepaaPk5
import Derived.Test.YthgcljefmkiepaaPk3
import Derived.Maps.Own
import Derived.Test.YthgcljefmkiepaaPk4
import Derived.Shelf.Small.Bits
import Derived.Shelf.Strconv.Itoa0
import Derived.Ground.GgsProg
import Derived.Shelf.GgSortFunc.Insertion
import Derived.Shelf.GgSortFunc.Small
import Derived.Shelf.GgSortFunc.InsertionK
import Derived.Shelf.GgSortFunc.SmallK
import Derived.Shelf.GgSortFunc.Tiny
import Derived.Shelf.GgSortFunc.Compose
import Derived.Shelf.GgSortFunc.LotD
import Derived.Shelf.SlSortFunc.Xorshift
import Derived.Shelf.SlSortFuncK.ComposeK
import Derived.Shelf.SlSortFuncK.SiftDownK
import Derived.Shelf.SlSortFuncK.HeapSortK
import Derived.Shelf.SlSortFuncK.PartialInsertionK
import Derived.Shelf.SlSortFuncK.LotDK
import Derived.Shelf.SlSortFuncK.PivotK
import Derived.Shelf.SlSortFuncK.PartitionK
import Derived.Shelf.SlSortFuncK.PdqK
import Derived.Shelf.SlSortFuncK.WholeK
import Derived.Test.YthgcljefmkiepaaProg
/-
  ValBytes of the specification: l2put of lists and maps, of all; ValBytes.
-/
namespace Go.Proofs.Ythgcljefmkiepaa
open Go.RowKit
set_option linter.unusedVariables false
set_option linter.unusedSimpArgs false

theorem kid_list (d : Nat) (K : List (List Int)) (L : List (Vl d)) (b : List Int) (k : Nat) (h : k < L.length) : kidB (fun x b => bytV d x b) false K L b (k + 1) = bytV d L[k] (kidB (fun x b => bytV d x b) false K L b k) := by
  rw [kidB_succ _ _ _ _ _ _ h]; rfl
theorem kid_map (d : Nat) (K : List (List Int)) (L : List (Vl d)) (b : List Int) (k : Nat) (h : k < L.length) : kidB (fun x b => bytV d x b) true K L b (k + 1) = bytV d L[k] (putText (kidB (fun x b => bytV d x b) true K L b k) (K.getD k [])) := by
  rw [kidB_succ _ _ _ _ _ _ h]; rfl
theorem kid_zero (d : Nat) (m : Bool) (K : List (List Int)) (L : List (Vl d)) (b : List Int) : kidB (fun x b => bytV d x b) m K L b 0 = b := rfl

theorem kid_room (d : Nat) (m : Bool) (K : List (List Int)) (L : List (Vl d)) (b : List Int) (M : Nat) (hM : b.length + 60 * pre (partsV d) L L.length + 25 ≤ M) (k : Nat) (h : k < L.length) : (kidB (fun x b => bytV d x b) m K L b k).length + 25 + 60 * partsV d L[k] ≤ M := by
  have h1 := kidB_len (fun x b => bytV d x b) (partsV d) (fun x b => bytV_len d x b) m K L b k (by omega)
  have h3 := pre_succ (partsV d) L k h
  have h4 := pre_le (partsV d) L (k + 1)
  have h5 := pre_all (partsV d) L
  omega

set_option maxHeartbeats 3000000 in
set_option maxRecDepth 100000 in
theorem l2put_list (d : Nat) (ih : SByAt d) (N : Nat) (a : Option Addr) (cap : Nat) (xs : List Int) (vn : Int) (vs : List Int) (vK : List (List Int)) (vL : List (Vl d)) (a2 : Option Addr) (l2 p2 : Nat) (a3 : Option Addr) (p3 : Nat) (a4 : Option Addr) (p4 : Nat) (deep : Nat) (w : World) (hN : N ≤ w.heap.size) (hs : Seg w a xs) (ka : a = none → cap = 0)
    (hl : LSeg (fun b => b < N) w d (.slice a4 vL.length p4) vL) (hk : KSeg (fun b => b < N) w (.slice a3 vK.length p3) vK) (hkl : True) (hkt : ∀ j, j < vK.length → (vK.getD j []).length ≤ 1000) (hg : ∀ j (h : j < vL.length), goodB d vL[j] deep = true) (hn : vL.length ≤ 9223372036854775807) (hlen : xs.length + 60 * (1 + pre (partsV d) vL vL.length) ≤ 1000000) :
    Calls Try.prog 17 #[.slice a xs.length cap, .agg #[.int .i64 4, .int .i64 vn, .slice a2 l2 p2, .slice a3 vK.length p3, .slice a4 vL.length p4]] w fun e w' => ∃ u, e = .returned u ∧ Bts w' w.heap.size u (bytV (d + 1) (4, vn, vs, vK, vL) xs) ∧ Below w.heap.size w w' := by
  have b0 : ∀ o : Obj, Below w.heap.size w (w.alloc o) := fun o => (Below.refl _ _).alloc (Nat.le_refl _) o
  have Hb := hide' b0
  have HL := hide' hl
  have HK := hide' hk
  have HI := hide' ih
  have HG := hide' hg
  have HKL := hide' hkl
  have HKT := hide' hkt
  have H1 : Hid (∀ o : Obj, Calls Try.prog 28 #[.slice a xs.length cap, .int .i64 4] (w.alloc o) (PEnd (w.alloc o) (putNum xs 4))) := fun o => spec_PutNum_end a cap xs 4 _ (hs.grow (b0 o)) ka (by omega)
  have hpl := putNum_len xs 4
  have hpl2 := putNum_len (putNum xs 4) vL.length
  obtain ⟨B0, hB0⟩ : ∃ B0, B0 = putNum (putNum xs 4) vL.length := ⟨_, rfl⟩
  rw [← hB0] at hpl2
  have HRoom : Hid (∀ k (h : k < vL.length), (kidB (fun x b => bytV d x b) false vK vL B0 k).length + 25 + 60 * partsV d vL[k] ≤ 1000000) := fun k h => kid_room d false vK vL B0 1000000 (by omega) k h
  have HF : Hid (bytV (d + 1) (4, vn, vs, vK, vL) xs = kidB (fun x b => bytV d x b) false vK vL B0 vL.length) := by show _ = _; rw [hB0]; exact bytV_list d vn vs vK vL xs
  have HSt : Hid (∀ k (h : k < vL.length), kidB (fun x b => bytV d x b) false vK vL B0 (k + 1) = bytV d vL[k] (kidB (fun x b => bytV d x b) false vK vL B0 k)) := fun k h => kid_list d vK vL B0 k h
  have HZ : Hid (kidB (fun x b => bytV d x b) false vK vL B0 0 = B0) := rfl
  generalize hkid : kidB (fun x b => bytV d x b) false vK vL B0 = kid at *
  have hP2 : Hid (∀ (a1 : Option Addr) (c1 : Nat) (wx : World), Bts wx 0 (.slice a1 (putNum xs 4).length c1) (putNum xs 4) → (a1 = none → c1 = 0) → Calls Try.prog 28 #[.slice a1 (putNum xs 4).length c1, .int .i64 vL.length] wx (PEnd wx B0)) := fun a1 c1 wx hB k => by rw [hB0]; exact spec_PutNum_end a1 c1 _ _ wx hB.seg k (by omega)
  obtain ⟨ob, HOb⟩ : ∃ ob, Hid (ob = Obj.cells #[.int .i64 4, .int .i64 vn, .slice a2 l2 p2, .slice a3 vK.length p3, .slice a4 vL.length p4] 32) := ⟨_, rfl⟩
  clear b0 hs hl hk hg ih hlen hkid hB0 hkl hkt
  go_enter Try.func17, Try.ntmps17
  go_wp2_with fail
  refine (H1.out _).mono ?_
  rintro e w1 ⟨a1, c1, rfl, hB1, b1, k1⟩
  obtain ⟨y0, y1, y2, y3, y4, _⟩ := row5 (box_row b1)
  have Bb1 : Hid (Below (w.alloc ob).heap.size (w.alloc ob) w1) := by rw [HOb.out]; exact b1
  have H2 := hide' (hP2.out a1 c1 w1 (hB1.mono (by omega)) k1)
  generalize (putNum xs 4).length = n1 at *
  clear b1 hB1 hP2
  go_wp2_with fail
  refine H2.out.mono ?_
  rintro e w2 ⟨a2', c2', rfl, hB2, b2, k2'⟩
  clear y0 y1 y2 y3 y4
  have Bb2 : Hid (Below (w.alloc ob).heap.size (w.alloc ob) w2) := Below.on Bb1.out b2
  have hrow := box_row Bb2.out
  rw [HOb.out] at hrow
  obtain ⟨y0, y1, y2, y3, y4, _⟩ := row5 hrow
  have HB2 : Hid (Bts w2 w.heap.size (.slice a2' B0.length c2') B0) := hB2.mono (by have := Bb1.out.size; simp at this; omega)
  generalize hn0 : B0.length = n0 at *
  clear b2 hB2 H2 hrow hn0
  go_wp2
  go_loopw [0, 7] (fun y i wr => ∃ k : Nat, k ≤ vL.length ∧ i = .int .i64 k ∧ Hid (Bts wr w.heap.size y (kid k)) ∧ Hid (Below (w.alloc ob).heap.size (w.alloc ob) wr)) (fun _ i _ => vL.length - (intOf i).toNat)
  case atStart => exact ⟨0, Nat.zero_le _, rfl, by rw [HZ.out]; exact HB2, Bb2⟩
  case round =>
    clear y0 y1 y2 y3 y4
    obtain ⟨k, hk, rfl, hB, hbel⟩ := hrel
    have hrow := box_row hbel.out
    rw [HOb.out] at hrow
    obtain ⟨y0, y1, y2, y3, y4, _⟩ := row5 hrow
    have B := Below.on (Hb.out ob) hbel.out
    clear hrow
    obtain ⟨ya, yc, rfl, _, _, _, _, kk⟩ := hB.out.shape
    by_cases hlt : k < vL.length
    · have hlt' : (k : Int) < (vL.length : Int) := by omega
      have hroom := HRoom.out k hlt
      obtain ⟨b, off, c, rfl, h5', hv⟩ := HL.out.at B hN hlt
      have HV := hide' hv
      obtain ⟨c0, c1', c2, c3, c4⟩ := c
      obtain ⟨q0, q1, q2, q3, q4⟩ := h5'
      simp only at q0 q1 q2 q3 q4
      have hz := B.size
      have HC := hide' (HI.out N ya yc (kid k) (c0, c1', c2, c3, c4) vL[k] deep wr (HV.out wr B) (by omega) hB.out.seg kk (HG.out k hlt) (by omega))
      rw [← HSt.out k hlt] at HC
      generalize (kid k).length = n2 at *
      clear hv hB
      go_wp2_with fail
      refine HC.out.mono ?_
      rintro e w3 ⟨u, rfl, hB3, b3⟩
      have B3 : Hid (Below (w.alloc ob).heap.size (w.alloc ob) w3) := Below.on hbel.out b3
      have HB3 : Hid (Bts w3 w.heap.size u (kid (k + 1))) := hB3.mono (by omega)
      obtain ⟨ya3, yc3, hu, _, _, _, _, _⟩ := hB3.shape
      generalize (kid (k + 1)).length = n3 at *
      subst hu
      clear q0 q1 q2 q3 q4 b3 HC hB3
      go_wp2
      go_roundw
      case rel => exact ⟨k + 1, by omega, by go_num, HB3, B3⟩
      case measure => simp [intOf]; omega
    · have hkn : k = vL.length := by omega
      have hlt' : ¬ (k : Int) < (vL.length : Int) := by omega
      have HE : Hid (Bts wr w.heap.size (.slice ya (kid k).length yc) (bytV (d + 1) (4, vn, vs, vK, vL) xs)) := by rw [HF.out, ← hkn]; exact hB
      clear hkn hB
      generalize (kid k).length = n1' at *
      go_wp2
      go_ret
      exact ⟨_, rfl, HE.out, B⟩

set_option maxHeartbeats 3000000 in
set_option maxRecDepth 100000 in
theorem l2put_map (d : Nat) (ih : SByAt d) (N : Nat) (a : Option Addr) (cap : Nat) (xs : List Int) (vn : Int) (vs : List Int) (vK : List (List Int)) (vL : List (Vl d)) (a2 : Option Addr) (l2 p2 : Nat) (a3 : Option Addr) (p3 : Nat) (a4 : Option Addr) (p4 : Nat) (deep : Nat) (w : World) (hN : N ≤ w.heap.size) (hs : Seg w a xs) (ka : a = none → cap = 0)
    (hl : LSeg (fun b => b < N) w d (.slice a4 vL.length p4) vL) (hk : KSeg (fun b => b < N) w (.slice a3 vK.length p3) vK) (hkl : vK.length = vL.length) (hkt : ∀ j, j < vK.length → (vK.getD j []).length ≤ 1000) (hg : ∀ j (h : j < vL.length), goodB d vL[j] deep = true) (hn : vL.length ≤ 9223372036854775807) (hlen : xs.length + 60 * (1 + pre (partsV d) vL vL.length) ≤ 1000000) :
    Calls Try.prog 17 #[.slice a xs.length cap, .agg #[.int .i64 5, .int .i64 vn, .slice a2 l2 p2, .slice a3 vK.length p3, .slice a4 vL.length p4]] w fun e w' => ∃ u, e = .returned u ∧ Bts w' w.heap.size u (bytV (d + 1) (5, vn, vs, vK, vL) xs) ∧ Below w.heap.size w w' := by
  have b0 : ∀ o : Obj, Below w.heap.size w (w.alloc o) := fun o => (Below.refl _ _).alloc (Nat.le_refl _) o
  have Hb := hide' b0
  have HL := hide' hl
  have HK := hide' hk
  have HI := hide' ih
  have HG := hide' hg
  have HKL := hide' hkl
  have HKT := hide' hkt
  have H1 : Hid (∀ o : Obj, Calls Try.prog 28 #[.slice a xs.length cap, .int .i64 5] (w.alloc o) (PEnd (w.alloc o) (putNum xs 5))) := fun o => spec_PutNum_end a cap xs 5 _ (hs.grow (b0 o)) ka (by omega)
  have hpl := putNum_len xs 5
  have hpl2 := putNum_len (putNum xs 5) vL.length
  obtain ⟨B0, hB0⟩ : ∃ B0, B0 = putNum (putNum xs 5) vL.length := ⟨_, rfl⟩
  rw [← hB0] at hpl2
  have HRoom : Hid (∀ k (h : k < vL.length), (kidB (fun x b => bytV d x b) true vK vL B0 k).length + 25 + 60 * partsV d vL[k] ≤ 1000000) := fun k h => kid_room d true vK vL B0 1000000 (by omega) k h
  have HF : Hid (bytV (d + 1) (5, vn, vs, vK, vL) xs = kidB (fun x b => bytV d x b) true vK vL B0 vL.length) := by show _ = _; rw [hB0]; exact bytV_map d vn vs vK vL xs
  have HSt : Hid (∀ k (h : k < vL.length), kidB (fun x b => bytV d x b) true vK vL B0 (k + 1) = bytV d vL[k] (putText (kidB (fun x b => bytV d x b) true vK vL B0 k) (vK.getD k []))) := fun k h => kid_map d vK vL B0 k h
  have HZ : Hid (kidB (fun x b => bytV d x b) true vK vL B0 0 = B0) := rfl
  generalize hkid : kidB (fun x b => bytV d x b) true vK vL B0 = kid at *
  have hP2 : Hid (∀ (a1 : Option Addr) (c1 : Nat) (wx : World), Bts wx 0 (.slice a1 (putNum xs 5).length c1) (putNum xs 5) → (a1 = none → c1 = 0) → Calls Try.prog 28 #[.slice a1 (putNum xs 5).length c1, .int .i64 vL.length] wx (PEnd wx B0)) := fun a1 c1 wx hB k => by rw [hB0]; exact spec_PutNum_end a1 c1 _ _ wx hB.seg k (by omega)
  obtain ⟨ob, HOb⟩ : ∃ ob, Hid (ob = Obj.cells #[.int .i64 5, .int .i64 vn, .slice a2 l2 p2, .slice a3 vK.length p3, .slice a4 vL.length p4] 32) := ⟨_, rfl⟩
  clear b0 hs hl hk hg ih hlen hkid hB0 hkl hkt
  go_enter Try.func17, Try.ntmps17
  go_wp2_with fail
  refine (H1.out _).mono ?_
  rintro e w1 ⟨a1, c1, rfl, hB1, b1, k1⟩
  obtain ⟨y0, y1, y2, y3, y4, _⟩ := row5 (box_row b1)
  have Bb1 : Hid (Below (w.alloc ob).heap.size (w.alloc ob) w1) := by rw [HOb.out]; exact b1
  have H2 := hide' (hP2.out a1 c1 w1 (hB1.mono (by omega)) k1)
  generalize (putNum xs 5).length = n1 at *
  clear b1 hB1 hP2
  go_wp2_with fail
  refine H2.out.mono ?_
  rintro e w2 ⟨a2', c2', rfl, hB2, b2, k2'⟩
  clear y0 y1 y2 y3 y4
  have Bb2 : Hid (Below (w.alloc ob).heap.size (w.alloc ob) w2) := Below.on Bb1.out b2
  have hrow := box_row Bb2.out
  rw [HOb.out] at hrow
  obtain ⟨y0, y1, y2, y3, y4, _⟩ := row5 hrow
  have HB2 : Hid (Bts w2 w.heap.size (.slice a2' B0.length c2') B0) := hB2.mono (by have := Bb1.out.size; simp at this; omega)
  generalize hn0 : B0.length = n0 at *
  clear b2 hB2 H2 hrow hn0
  go_wp2
  go_loopw [0, 7] (fun y i wr => ∃ k : Nat, k ≤ vL.length ∧ i = .int .i64 k ∧ Hid (Bts wr w.heap.size y (kid k)) ∧ Hid (Below (w.alloc ob).heap.size (w.alloc ob) wr)) (fun _ i _ => vL.length - (intOf i).toNat)
  case atStart => exact ⟨0, Nat.zero_le _, rfl, by rw [HZ.out]; exact HB2, Bb2⟩
  case round =>
    clear y0 y1 y2 y3 y4
    obtain ⟨k, hk, rfl, hB, hbel⟩ := hrel
    have hrow := box_row hbel.out
    rw [HOb.out] at hrow
    obtain ⟨y0, y1, y2, y3, y4, _⟩ := row5 hrow
    have B := Below.on (Hb.out ob) hbel.out
    clear hrow
    obtain ⟨ya, yc, rfl, _, _, _, _, kk⟩ := hB.out.shape
    by_cases hlt : k < vL.length
    · have hlt' : (k : Int) < (vL.length : Int) := by omega
      have hroom := HRoom.out k hlt
      obtain ⟨b, off, c, rfl, h5', hv⟩ := HL.out.at B hN hlt
      have HV := hide' hv
      obtain ⟨c0, c1', c2, c3, c4⟩ := c
      obtain ⟨q0, q1, q2, q3, q4⟩ := h5'
      simp only at q0 q1 q2 q3 q4
      have hz := B.size
      have hlt3 : k < vK.length := by rw [HKL.out]; exact hlt
      have hlt3' : (k : Int) < (vK.length : Int) := by omega
      obtain ⟨bk, ok, rfl, hkc⟩ := (HK.out.agree (agree_below (B.mono hN))).at hlt3
      obtain ⟨ta, tc, qk, sk, mk⟩ := hkc k hlt3
      have ktc : ta = none → tc = 0 := (KSeg.none_at (HK.out.agree (agree_below (B.mono hN))) hlt3 qk)
      have HT := hide' (spec_PutText_end ya ta yc tc (kid k) (vK.getD k []) wr hB.out.seg sk kk ktc (by omega) (by have := HKT.out k hlt3; omega))
      have hptl := putText_len (kid k) (vK.getD k [])
      have HS1 := HSt.out k hlt
      obtain ⟨ts, hts⟩ : ∃ ts, ts = vK.getD k [] := ⟨_, rfl⟩
      rw [← hts] at HT qk hptl HS1
      obtain ⟨zz, hzz⟩ : ∃ zz, zz = putText (kid k) ts := ⟨_, rfl⟩
      rw [← hzz] at HT hptl HS1
      have HI2 : Hid (∀ (ua : Option Addr) (uc : Nat) (wx : World), Below w.heap.size w wx → Bts wx wr.heap.size (.slice ua zz.length uc) zz → (ua = none → uc = 0) → Calls Try.prog 17 #[.slice ua zz.length uc, .agg #[c0, c1', c2, c3, c4]] wx fun e w' => ∃ u, e = .returned u ∧ Bts w' wx.heap.size u (kid (k + 1)) ∧ Below wx.heap.size wx w') := fun ua uc wx hb hB' hk' => by
        rw [HS1]
        exact HI.out N ua uc zz (c0, c1', c2, c3, c4) vL[k] deep wx (HV.out wx hb) (by have := hb.size; omega) hB'.seg hk' (HG.out k hlt) (by omega)
      have hq : Hid (∀ wx, Below w.heap.size w wx → Five wx b (off + k * 5) (c0, c1', c2, c3, c4)) := fun wx hb => five_same HL.out hb B hN hlt ⟨q0, q1, q2, q3, q4⟩
      generalize (kid k).length = n2 at *
      generalize ts.length = n4 at *
      clear hv hB sk mk hkc hts hzz HS1 q0 q1 q2 q3 q4
      go_wp2_with fail
      refine HT.out.mono ?_
      rintro e w3 ⟨ua, uc, rfl, hB3, b3, k3⟩
      clear y0 y1 y2 y3 y4
      have B3 : Hid (Below (w.alloc ob).heap.size (w.alloc ob) w3) := Below.on hbel.out b3
      have B3' := Below.on B b3
      have hrow := box_row B3.out
      rw [HOb.out] at hrow
      obtain ⟨y0, y1, y2, y3, y4, _⟩ := row5 hrow
      obtain ⟨q0, q1, q2, q3, q4⟩ := hq.out w3 B3'
      simp only at q0 q1 q2 q3 q4
      have HC := hide' (HI2.out ua uc w3 B3' hB3 k3)
      have hz3 := B3'.size
      generalize zz.length = n5 at *
      clear b3 hB3 hrow HI2 HT qk
      go_wp2_with fail
      refine HC.out.mono ?_
      rintro e w4 ⟨u, rfl, hB4, b4⟩
      have B4 : Hid (Below (w.alloc ob).heap.size (w.alloc ob) w4) := Below.on B3.out b4
      have HB4 : Hid (Bts w4 w.heap.size u (kid (k + 1))) := hB4.mono (by omega)
      obtain ⟨ya4, yc4, hu, _, _, _, _, _⟩ := hB4.shape
      generalize (kid (k + 1)).length = n3 at *
      subst hu
      clear q0 q1 q2 q3 q4 b4 HC hB4
      go_wp2
      go_roundw
      case rel => exact ⟨k + 1, by omega, by go_num, HB4, B4⟩
      case measure => simp [intOf]; omega
    · have hkn : k = vL.length := by omega
      have hlt' : ¬ (k : Int) < (vL.length : Int) := by omega
      have HE : Hid (Bts wr w.heap.size (.slice ya (kid k).length yc) (bytV (d + 1) (5, vn, vs, vK, vL) xs)) := by rw [HF.out, ← hkn]; exact hB
      clear hkn hB
      generalize (kid k).length = n1' at *
      go_wp2
      go_ret
      exact ⟨_, rfl, HE.out, B⟩
end Go.Proofs.Ythgcljefmkiepaa
/-
  ValBytes of the specification: l2put of whatever value, ValBytes.
-/
namespace Go.Proofs.Ythgcljefmkiepaa
open Go.RowKit
set_option linter.unusedVariables false
set_option linter.unusedSimpArgs false

theorem shape_kinds {vk vn : Int} {vs : List Int} {vK : List (List Int)} {n : Nat} (h : shapeB vk vn vs vK n = true) :
    vs.length ≤ 20 ∧ ((vk = 0 ∨ vk = 6 ∨ vk = 1 ∨ vk = 3) ∨ (vk = 2 ∧ -1000000000000 ≤ vn ∧ vn ≤ 1000000000000) ∨ (vk = 4 ∧ vK.length = 0) ∨ (vk = 5 ∧ vK.length = n ∧ ascB vK = true)) := by
  unfold shapeB bareB intB at h
  simp only [Bool.and_eq_true, Bool.or_eq_true, decide_eq_true_eq] at h
  obtain ⟨⟨⟨⟨h1, h2⟩, h3⟩, h4⟩, h5⟩ := h
  have htx : textB vs = true → vs.length ≤ 20 := fun ht => by
    unfold textB at ht
    simp only [Bool.and_eq_true, decide_eq_true_eq] at ht
    exact ht.1
  rcases h5 with (((((h5 | h5) | h5) | h5) | h5) | h5) | h5
  · exact ⟨by omega, .inl (.inl h5)⟩
  · exact ⟨by omega, .inl (.inr (.inl h5))⟩
  · exact ⟨by omega, .inl (.inr (.inr (.inl h5.1)))⟩
  · exact ⟨by omega, .inr (.inl ⟨h5.1, h5.2.1, h5.2.2⟩)⟩
  · exact ⟨htx h5.2, .inl (.inr (.inr (.inr h5.1)))⟩
  · exact ⟨by omega, .inr (.inr (.inl ⟨h5, by omega⟩))⟩
  · exact ⟨by omega, .inr (.inr (.inr ⟨h5.1, h5.2.1, h5.2.2⟩))⟩

theorem asc_short {vK : List (List Int)} (h : ascB vK = true) (j : Nat) (hj : j < vK.length) : (vK.getD j []).length ≤ 8 := by
  have h1 := ascB_at h hj
  unfold stepB nameB at h1
  simp only [Bool.and_eq_true, decide_eq_true_eq] at h1
  exact h1.1.1.2

theorem l2put_succ (d : Nat) (ih : SByAt d) : SByAt (d + 1) := by
  intro N a cap xs c v deep w hv hN hs ka hg hlen
  obtain ⟨c0, c1, c2, c3, c4⟩ := c
  obtain ⟨vk, vn, vs, vK, vL⟩ := v
  obtain ⟨_, hsh, hkids⟩ := (good_succ _ _ _ _ _ _ _).1 hg
  obtain ⟨hvs, hk⟩ := shape_kinds hsh
  obtain ⟨e0, e1, ht, hK, hl⟩ := (VSeg_succ _ _ _ _ _).1 hv
  simp only at e0 e1 ht hK hl
  subst e0
  subst e1
  have hp := parts_succ d vk vn vs vK vL
  rw [hp] at hlen
  have hl' := hl
  have hK' := hK
  obtain ⟨a2, p2, rfl, s2, l2, m2, k2, r2⟩ := ht
  obtain ⟨a3, p3, rfl, _⟩ := hK
  obtain ⟨a4, p4, rfl, hlc4, hcm4, _⟩ := hl
  unfold maxLen at hcm4
  rcases hk with hk | ⟨rfl, hlo, hhi⟩ | ⟨rfl, h0⟩ | ⟨rfl, h1, h2⟩
  · exact l2put_leaf d N a cap xs vk vn vs vK vL a2 p2 _ _ w hs ka (by omega) s2 k2 (by omega) ⟨_, _, _, rfl⟩ ⟨_, _, _, rfl⟩ hk
  · exact l2put_int d N a cap xs vn vs vK vL a2 p2 _ _ w hs ka (by omega) s2 k2 (by omega) ⟨_, _, _, rfl⟩ ⟨_, _, _, rfl⟩ hlo hhi
  · exact l2put_list d ih N a cap xs vn vs vK vL a2 _ p2 a3 p3 a4 p4 (deep + 1) w hN hs ka hl' hK' trivial (fun j hj => by omega) hkids (by omega) hlen
  · exact l2put_map d ih N a cap xs vn vs vK vL a2 _ p2 a3 p3 a4 p4 (deep + 1) w hN hs ka hl' hK' h1 (fun j hj => by have := asc_short h2 j hj; omega) hkids (by omega) hlen

theorem l2put_any (d : Nat) : SByAt d := by
  induction d with
  | zero => intro N a cap xs c v deep w hv; exact hv.elim
  | succ d ih => exact l2put_succ d ih

theorem okB_parts {d : Nat} {v : Vl d} (h : okB d v = true) : goodB d v 1 = true ∧ partsV d v ≤ 40 := by
  unfold okB at h
  simp only [Bool.and_eq_true, decide_eq_true_eq] at h
  exact h

/-- What ValBytes has answered. -/
def ByEnd (d : Nat) (v : Vl d) (w : World) (e : Ending) (w' : World) : Prop := ∃ a n c, e = .returned (.tuple #[.slice a n c, .bool (okB d v)]) ∧ Bts w' w.heap.size (.slice a n c) (valBytes d v) ∧ Below w.heap.size w w'

set_option maxHeartbeats 1600000 in
set_option maxRecDepth 100000 in
theorem spec_ValBytes_any (d N : Nat) (c0 c1 c2 c3 c4 : Value) (v : Vl d) (w : World) (hv : VSeg (fun b => b < N) w d (c0, c1, c2, c3, c4) v) (hN : N ≤ w.heap.size) :
    Calls Try.prog 5 #[.agg #[c0, c1, c2, c3, c4]] w (ByEnd d v w) := by
  have b0 : ∀ o : Obj, Below w.heap.size w (w.alloc o) := fun o => (Below.refl _ _).alloc (Nat.le_refl _) o
  have Hb := hide' b0
  have HC : Hid (∀ wx, Below w.heap.size w wx → Calls Try.prog 16 #[.agg #[c0, c1, c2, c3, c4]] wx fun e w' => e = .returned (.bool (okB d v)) ∧ Below wx.heap.size wx w') := fun wx hb =>
    spec_ValOk_any d N c0 c1 c2 c3 c4 v wx (VSeg.agree (agree_below (hb.mono hN)) d hv) (by have := hb.size; omega)
  have HP : Hid (okB d v = true → ∀ wx, Below w.heap.size w wx → Calls Try.prog 17 #[.slice none 0 0, .agg #[c0, c1, c2, c3, c4]] wx fun e w' => ∃ a n c, e = .returned (.slice a n c) ∧ Bts w' wx.heap.size (.slice a n c) (valBytes d v) ∧ Below wx.heap.size wx w') := fun hok wx hb => by
    obtain ⟨h1, h2⟩ := okB_parts hok
    refine (l2put_any d N none 0 [] (c0, c1, c2, c3, c4) v 1 wx (VSeg.agree (agree_below (hb.mono hN)) d hv) (by have := hb.size; omega) ⟨by simp, .inl rfl⟩ (fun _ => rfl) h1 (by simp; omega)).mono ?_
    rintro e w' ⟨u, rfl, hB, hbw⟩
    obtain ⟨a, c, rfl, _⟩ := hB.shape
    exact ⟨a, _, c, rfl, by rw [valBytes, if_pos hok]; exact hB, hbw⟩
  obtain ⟨vk, vn, a2, l2, p2, a3, l3, p3, a4, l4, p4, rfl, rfl, rfl, rfl, rfl⟩ := VSeg.form d hv
  clear hv b0
  cases hok : okB d v with
  | true =>
    have HP2 := hide' (HP.out hok)
    rw [hok] at HC
    go_enter Try.func5, Try.ntmps5
    go_wp2_with fail
    refine (HC.out _ (Hb.out _)).mono ?_
    rintro e w1 ⟨rfl, b1⟩
    obtain ⟨y0, y1, y2, y3, y4, _⟩ := row5 (box_row b1)
    have B1 := Below.on (Hb.out _) b1
    clear b1
    go_wp2_with fail
    refine (HP2.out _ B1).mono ?_
    rintro e w2 ⟨a, n, c, rfl, hB, b2⟩
    have B2 := Below.on B1 b2
    have HB := hide' (hB.mono (base' := w.heap.size) B1.size)
    clear b2 hB
    go_wp2
    go_ret2
    exact ⟨a, n, c, by rw [hok]; rfl, HB.out, B2⟩
  | false =>
    rw [hok] at HC
    go_enter Try.func5, Try.ntmps5
    go_wp2_with fail
    refine (HC.out _ (Hb.out _)).mono ?_
    rintro e w1 ⟨rfl, b1⟩
    have B1 := Below.on (Hb.out _) b1
    clear b1
    go_wp2
    go_ret2
    exact ⟨none, 0, 0, by rw [hok]; rfl, by rw [valBytes, hok]; exact bts_nil _ _, B1⟩
end Go.Proofs.Ythgcljefmkiepaa
/-
  The datum of a map of parts while its keys are put; no statement is proved here.
-/
namespace Go.Proofs.Ythgcljefmkiepaa
open Go.RowKit
set_option linter.unusedVariables false

/-- How an element of a map of parts reads: as itself. -/
def tokR (v : Value) : Option (DataW Value × List MemPlace) := some (.held v, [])

/-- The map's datum after the first k of its keys were put. -/
def mapD (vK : List (List Int)) (ps : List Value) : Nat → DataW Value
  | 0 => .map []
  | k + 1 => (mapD vK ps k).put (.string (u8s (vK.getD k []))) (.held (ps.getD k .nilIface))

theorem below_grows {w w' : World} (h : Below w.heap.size w w') (r : Option Nat) : w.grownBy w' r := ⟨h.os, h.tape, h.output, h.size, fun k hk _ => h.block k hk⟩
end Go.Proofs.Ythgcljefmkiepaa
/-
  What the program's inner parts (an interface with one type a kind) hold: 'PSeg' reads one as a value; lists and maps of them.
-/
namespace Go.Proofs.Ythgcljefmkiepaa
open Go.RowKit
set_option linter.unusedVariables false
set_option linter.unusedSimpArgs false

/-- A part of the program's reads as a value of depth at most d; it lies in blocks of R. -/
def PSeg (R : Nat → Prop) (w : World) : (d : Nat) → Value → Vl d → Prop
  | 0, _, _ => False
  | d + 1, p, v =>
    (v.1 = 0 ∧ p = .iface 80 (.agg #[])) ∨ (v.1 = 6 ∧ p = .iface 81 (.agg #[])) ∨
    (v.1 = 1 ∧ p = .iface 63 (.agg #[.int .i64 v.2.1])) ∨ (v.1 = 2 ∧ p = .iface 64 (.agg #[.int .i64 v.2.1])) ∨
    (v.1 = 3 ∧ p = .iface 66 (.agg #[.string (strOf v.2.2.1)])) ∨
    (v.1 = 4 ∧ ∃ a cap, p = .iface 69 (.agg #[.slice a v.2.2.2.2.length cap]) ∧ (v.2.2.2.2 = [] ∨ ∃ b off, a = some ⟨b, off, none⟩ ∧ R b ∧ ∀ i (h : i < v.2.2.2.2.length), ∃ u, w.cell? ⟨b, off + i, none⟩ = some u ∧ PSeg R w d u (v.2.2.2.2[i]))) ∨
    (v.1 = 5 ∧ ∃ b ps, p = .iface 72 (.agg #[.map (some b)]) ∧ R b ∧ w.ownsMap Try.prog 9 tokR b 64 (mapD v.2.2.2.1 ps v.2.2.2.2.length) ∧ ∀ i (h : i < v.2.2.2.2.length), PSeg R w d (ps.getD i .nilIface) (v.2.2.2.2[i]))

/-- A slice of parts. -/
def PLSeg (R : Nat → Prop) (w : World) (d : Nat) (x : Value) (l : List (Vl d)) : Prop :=
  ∃ a cap, x = .slice a l.length cap ∧ (l = [] ∨ ∃ b off, a = some ⟨b, off, none⟩ ∧ R b ∧ ∀ i (h : i < l.length), ∃ u, w.cell? ⟨b, off + i, none⟩ = some u ∧ PSeg R w d u (l[i]))

theorem ownsMap_agree {R : Nat → Prop} {w w' : World} {b n : Nat} {D : DataW Value} (h : w.ownsMap Try.prog 9 tokR b n D) (ha : Agree R w w') (hb : R b) : w'.ownsMap Try.prog 9 tokR b n D := by
  obtain ⟨es, clock, h1, r⟩ := h
  exact ⟨es, clock, (ha b hb).trans h1, r⟩

theorem PSeg.carry {R R' : Nat → Prop} {w w' : World} (hr : ∀ b, R b → R' b) (ha : Agree R w w') (d : Nat) : ∀ {p : Value} {v : Vl d}, PSeg R w d p v → PSeg R' w' d p v := by
  induction d with
  | zero => intro p v h; exact h
  | succ d ih =>
    intro p v h
    rcases h with h | h | h | h | h | ⟨hk, a, cap, hp, hc⟩ | ⟨hk, b, ps, hp, hR, hm, hc⟩
    · exact .inl h
    · exact .inr (.inl h)
    · exact .inr (.inr (.inl h))
    · exact .inr (.inr (.inr (.inl h)))
    · exact .inr (.inr (.inr (.inr (.inl h))))
    · refine .inr (.inr (.inr (.inr (.inr (.inl ⟨hk, a, cap, hp, ?_⟩)))))
      rcases hc with h0 | ⟨b, off, e, hR, hc⟩
      · exact .inl h0
      · refine .inr ⟨b, off, e, hr b hR, fun i hi => ?_⟩
        obtain ⟨u, hu, hv⟩ := hc i hi
        exact ⟨u, (cell_agree ha hR).trans hu, ih hv⟩
    · exact .inr (.inr (.inr (.inr (.inr (.inr ⟨hk, b, ps, hp, hr b hR, ownsMap_agree hm ha hR, fun i hi => ih (hc i hi)⟩)))))

/-- What take leaves of all that was there: all but the block of its counter. -/
theorem agree_grown {N q : Nat} {w w' : World} (h : w.grownBy w' (some q)) (hN : N ≤ q) (hq : q < w.heap.size) : Agree (fun b => b < N) w w' := fun b hb => h.block b (by omega) (by simp; omega)

theorem run_makeMapN (t k e : TypeId) (n : Int) (w : World) (ht : Try.prog.underlying t = some (.map k e)) : (Instr.makeMap t (some (.int .i64 n))).run Try.prog w = .ok (.map (some w.heap.size)) (w.alloc (.map #[] 0)) := by
  unfold Instr.makeMap
  simp only [Sem.run_bind, Sem.run_pure, run_underlying ht, Result.andThen]
  rfl

theorem info_part : (Try.prog.info? 47).map (fun i => (i.zero, i.size, i.bytes)) = some (some .nilIface, 1, 16) := by kernel_rfl

/-- The counter of an intake. -/
def Cnt (w : World) (q : Nat) (n : Nat) : Prop := w.heap[q]? = some (.cells #[.int .i64 n] 59 (0, 0))

/-- What a good take has brought about. -/
def Took (d : Nat) (v : Vl d) (deep n q : Nat) (w w' : World) (p : Value) : Prop :=
  goodB d v deep = true ∧ n + partsV d v ≤ 40 ∧ Cnt w' q (n + partsV d v) ∧ PSeg (fun b => w.heap.size ≤ b ∧ b < w'.heap.size) w' d p v

/-- The contract of take at depth d. -/
def TakeAt (d : Nat) : Prop := ∀ (N q n : Nat) (c : Value × Value × Value × Value × Value) (v : Vl d) (deep : Nat) (w : World), VSeg (fun b => b < N) w d c v → N ≤ q → q < w.heap.size → Cnt w q n → n ≤ 40 → deep ≤ 6 →
  Calls Try.prog 30 #[.pointer (some ⟨q, 0, none⟩), .agg #[c.1, c.2.1, c.2.2.1, c.2.2.2.1, c.2.2.2.2], .int .i64 deep] w fun e w' =>
    w.grownBy w' (some q) ∧ ((∃ p, e = .returned (.tuple #[p, .bool true]) ∧ Took d v deep n q w w' p) ∨ (e = .returned (.tuple #[.nilIface, .bool false]) ∧ ¬ (goodB d v deep = true ∧ n + partsV d v ≤ 40)))

theorem Cnt.cell {w : World} {q n : Nat} (h : Cnt w q n) : w.cell? ⟨q, 0, none⟩ = some (.int .i64 n) ∧ w.frozen? ⟨q, 0, none⟩ = false := by
  refine ⟨?_, frozen_of_row w q 0 _ _ h⟩
  rw [cell_of_row w q 0 _ _ (0, 0) h]
  rfl

theorem Cnt.set {w : World} {q n : Nat} (h : Cnt w q n) (m : Nat) : Cnt (w.setCell ⟨q, 0, none⟩ (.int .i64 m)) q m := heap_setCell_same w q 0 _ _ _ h
end Go.Proofs.Ythgcljefmkiepaa
/-
  Which type a part is: the type assertions of a part, at each type.
-/
namespace Go.Proofs.Ythgcljefmkiepaa
open Go.RowKit
set_option linter.unusedVariables false
set_option linter.unusedSimpArgs false

theorem nobool_nullPart (x : Value) (w : World) : (Instr.typeAssert (.iface 80 x) 47 63 true).run Try.prog w = .ok (.tuple #[.agg #[.int .i64 0], .bool false]) w := by kernel_rfl
theorem nobool_unknownPart (x : Value) (w : World) : (Instr.typeAssert (.iface 81 x) 47 63 true).run Try.prog w = .ok (.tuple #[.agg #[.int .i64 0], .bool false]) w := by kernel_rfl
theorem nobool_intPart (x : Value) (w : World) : (Instr.typeAssert (.iface 64 x) 47 63 true).run Try.prog w = .ok (.tuple #[.agg #[.int .i64 0], .bool false]) w := by kernel_rfl
theorem nobool_textPart (x : Value) (w : World) : (Instr.typeAssert (.iface 66 x) 47 63 true).run Try.prog w = .ok (.tuple #[.agg #[.int .i64 0], .bool false]) w := by kernel_rfl
theorem nobool_listPart (x : Value) (w : World) : (Instr.typeAssert (.iface 69 x) 47 63 true).run Try.prog w = .ok (.tuple #[.agg #[.int .i64 0], .bool false]) w := by kernel_rfl
theorem nobool_mapPart (x : Value) (w : World) : (Instr.typeAssert (.iface 72 x) 47 63 true).run Try.prog w = .ok (.tuple #[.agg #[.int .i64 0], .bool false]) w := by kernel_rfl
theorem noint_nullPart (x : Value) (w : World) : (Instr.typeAssert (.iface 80 x) 47 64 true).run Try.prog w = .ok (.tuple #[.agg #[.int .i64 0], .bool false]) w := by kernel_rfl
theorem noint_unknownPart (x : Value) (w : World) : (Instr.typeAssert (.iface 81 x) 47 64 true).run Try.prog w = .ok (.tuple #[.agg #[.int .i64 0], .bool false]) w := by kernel_rfl
theorem noint_textPart (x : Value) (w : World) : (Instr.typeAssert (.iface 66 x) 47 64 true).run Try.prog w = .ok (.tuple #[.agg #[.int .i64 0], .bool false]) w := by kernel_rfl
theorem noint_listPart (x : Value) (w : World) : (Instr.typeAssert (.iface 69 x) 47 64 true).run Try.prog w = .ok (.tuple #[.agg #[.int .i64 0], .bool false]) w := by kernel_rfl
theorem noint_mapPart (x : Value) (w : World) : (Instr.typeAssert (.iface 72 x) 47 64 true).run Try.prog w = .ok (.tuple #[.agg #[.int .i64 0], .bool false]) w := by kernel_rfl
theorem notext_nullPart (x : Value) (w : World) : (Instr.typeAssert (.iface 80 x) 47 66 true).run Try.prog w = .ok (.tuple #[.agg #[.string ⟨#[]⟩], .bool false]) w := by kernel_rfl
theorem notext_unknownPart (x : Value) (w : World) : (Instr.typeAssert (.iface 81 x) 47 66 true).run Try.prog w = .ok (.tuple #[.agg #[.string ⟨#[]⟩], .bool false]) w := by kernel_rfl
theorem notext_listPart (x : Value) (w : World) : (Instr.typeAssert (.iface 69 x) 47 66 true).run Try.prog w = .ok (.tuple #[.agg #[.string ⟨#[]⟩], .bool false]) w := by kernel_rfl
theorem notext_mapPart (x : Value) (w : World) : (Instr.typeAssert (.iface 72 x) 47 66 true).run Try.prog w = .ok (.tuple #[.agg #[.string ⟨#[]⟩], .bool false]) w := by kernel_rfl
theorem nolist_nullPart (x : Value) (w : World) : (Instr.typeAssert (.iface 80 x) 47 69 true).run Try.prog w = .ok (.tuple #[.agg #[.slice none 0 0], .bool false]) w := by kernel_rfl
theorem nolist_unknownPart (x : Value) (w : World) : (Instr.typeAssert (.iface 81 x) 47 69 true).run Try.prog w = .ok (.tuple #[.agg #[.slice none 0 0], .bool false]) w := by kernel_rfl
theorem nolist_mapPart (x : Value) (w : World) : (Instr.typeAssert (.iface 72 x) 47 69 true).run Try.prog w = .ok (.tuple #[.agg #[.slice none 0 0], .bool false]) w := by kernel_rfl
theorem nomap_nullPart (x : Value) (w : World) : (Instr.typeAssert (.iface 80 x) 47 72 true).run Try.prog w = .ok (.tuple #[.agg #[.map none], .bool false]) w := by kernel_rfl
theorem nomap_unknownPart (x : Value) (w : World) : (Instr.typeAssert (.iface 81 x) 47 72 true).run Try.prog w = .ok (.tuple #[.agg #[.map none], .bool false]) w := by kernel_rfl
theorem is_boolPart (x : Value) (w : World) : (Instr.typeAssert (.iface 63 x) 47 63 true).run Try.prog w = .ok (.tuple #[x, .bool true]) w := by kernel_rfl
theorem is_intPart (x : Value) (w : World) : (Instr.typeAssert (.iface 64 x) 47 64 true).run Try.prog w = .ok (.tuple #[x, .bool true]) w := by kernel_rfl
theorem is_textPart (x : Value) (w : World) : (Instr.typeAssert (.iface 66 x) 47 66 true).run Try.prog w = .ok (.tuple #[x, .bool true]) w := by kernel_rfl
theorem is_listPart (x : Value) (w : World) : (Instr.typeAssert (.iface 69 x) 47 69 true).run Try.prog w = .ok (.tuple #[x, .bool true]) w := by kernel_rfl
theorem is_mapPart (x : Value) (w : World) : (Instr.typeAssert (.iface 72 x) 47 72 true).run Try.prog w = .ok (.tuple #[x, .bool true]) w := by kernel_rfl

end Go.Proofs.Ythgcljefmkiepaa
/-
  DERIVED: THE SHELF's CONTRACTS AT THIS DUMP, IN PLAIN WORDS (tools/lay-plain.mjs out of 'TryShelf.lean', which tools/lay-shelf.mjs wrote): THE SAME DECLARATIONS UNDER THE SAME NAMES: 'import', 'namespace', 'open', 'def', 'theorem' AND NOTHING ELSE: no command of the shelf's: FOR A HAND-IN. Each laying: the table of numbers ('.._ren') and one theorem, a field a fact of the dump's own or the kernel's comparison; each contract: ONE APPLICATION.
-/
namespace Go.Proofs
open Go.Shelf
def Try.laysGg6_ren : Go.Shelf.Ren := ⟨fun | 6 => 44 | 10 => 48 | 11 => 49 | 12 => 50 | 13 => 51 | 14 => 52 | 24 => 64 | 25 => 65 | 26 => 66 | 27 => 67 | 28 => 68 | 29 => 69 | 30 => 70 | 31 => 71 | 32 => 72 | 33 => 73 | 34 => 75 | 35 => 76 | 36 => 77 | 37 => 78 | 38 => 79 | 39 => 80 | n => n, fun | 20 => 20 | 26 => 88 | 35 => 94 | 0 => 0 | 37 => 96 | 3 => 3 | 41 => 99 | 44 => 102 | 49 => 108 | 51 => 110 | 4 => 4 | 54 => 113 | 53 => 112 | 58 => 117 | 5 => 5 | 9 => 9 | 60 => 119 | 64 => 123 | 66 => 125 | 67 => 126 | 17 => 17 | 32 => 91 | 33 => 92 | 82 => 141 | 12 => 12 | 75 => 134 | 76 => 135 | 77 => 136 | 78 => 137 | 79 => 138 | 80 => 139 | n => n, fun | n => n⟩
theorem Try.laysGg6 : Go.Proofs.LaysGg.n6 Try.prog Try.laysGg6_ren := {
  mixed := by kernel_rfl
  f6 := Try.func44.trans (congrArg some (by kernel_rfl))
  f10 := Try.func48.trans (congrArg some (by kernel_rfl))
  f11 := Try.func49.trans (congrArg some (by kernel_rfl))
  f12 := Try.func50.trans (congrArg some (by kernel_rfl))
  f13 := Try.func51.trans (congrArg some (by kernel_rfl))
  f14 := Try.func52.trans (congrArg some (by kernel_rfl))
  f24 := Try.func64.trans (congrArg some (by kernel_rfl))
  f25 := Try.func65.trans (congrArg some (by kernel_rfl))
  f26 := Try.func66.trans (congrArg some (by kernel_rfl))
  f27 := Try.func67.trans (congrArg some (by kernel_rfl))
  f28 := Try.func68.trans (congrArg some (by kernel_rfl))
  f29 := Try.func69.trans (congrArg some (by kernel_rfl))
  f30 := Try.func70.trans (congrArg some (by kernel_rfl))
  f31 := Try.func71.trans (congrArg some (by kernel_rfl))
  f32 := Try.func72.trans (congrArg some (by kernel_rfl))
  f33 := Try.func73.trans (congrArg some (by kernel_rfl))
  f34 := Try.func75.trans (congrArg some (by kernel_rfl))
  f35 := Try.func76.trans (congrArg some (by kernel_rfl))
  f36 := Try.func77.trans (congrArg some (by kernel_rfl))
  f37 := Try.func78.trans (congrArg some (by kernel_rfl))
  f38 := Try.func79.trans (congrArg some (by kernel_rfl))
  f39 := Try.func80.trans (congrArg some (by kernel_rfl))
  t0 := Try.underlying0
  a0 := Try.isAgg0
  z0 := Try.sizeOf0
  v0 := Try.zeroValue0
  i0 := by kernel_rfl
  t3 := Try.underlying3
  a3 := Try.isAgg3
  z3 := Try.sizeOf3
  v3 := Try.zeroValue3
  i3 := by kernel_rfl
  t4 := Try.underlying4
  a4 := Try.isAgg4
  z4 := Try.sizeOf4
  v4 := Try.zeroValue4
  i4 := by kernel_rfl
  t5 := Try.underlying5
  a5 := Try.isAgg5
  z5 := Try.sizeOf5
  v5 := Try.zeroValue5
  i5 := by kernel_rfl
  t9 := Try.underlying9
  a9 := Try.isAgg9
  z9 := Try.sizeOf9
  v9 := Try.zeroValue9
  i9 := by kernel_rfl
  t12 := Try.underlying12
  a12 := Try.isAgg12
  z12 := Try.sizeOf12
  v12 := Try.zeroValue12
  i12 := by kernel_rfl
  t17 := Try.underlying17
  a17 := Try.isAgg17
  z17 := Try.sizeOf17
  v17 := Try.zeroValue17
  i17 := by kernel_rfl
  t20 := Try.underlying20
  a20 := Try.isAgg20
  z20 := Try.sizeOf20
  v20 := Try.zeroValue20
  i20 := by kernel_rfl
  t26 := Try.underlying88
  a26 := Try.isAgg88
  z26 := Try.sizeOf88
  v26 := Try.zeroValue88
  i26 := by kernel_rfl
  t32 := Try.underlying91
  a32 := Try.isAgg91
  z32 := Try.sizeOf91
  v32 := Try.zeroValue91
  i32 := by kernel_rfl
  t33 := Try.underlying92
  a33 := Try.isAgg92
  z33 := Try.sizeOf92
  v33 := Try.zeroValue92
  i33 := by kernel_rfl
  t35 := Try.underlying94
  a35 := Try.isAgg94
  z35 := Try.sizeOf94
  v35 := Try.zeroValue94
  i35 := by kernel_rfl
  t37 := Try.underlying96
  a37 := Try.isAgg96
  z37 := Try.sizeOf96
  v37 := Try.zeroValue96
  i37 := by kernel_rfl
  t41 := Try.underlying99
  a41 := Try.isAgg99
  z41 := Try.sizeOf99
  v41 := Try.zeroValue99
  i41 := by kernel_rfl
  t44 := Try.underlying102
  a44 := Try.isAgg102
  z44 := Try.sizeOf102
  v44 := Try.zeroValue102
  i44 := by kernel_rfl
  t49 := Try.underlying108
  a49 := Try.isAgg108
  z49 := Try.sizeOf108
  v49 := Try.zeroValue108
  i49 := by kernel_rfl
  t51 := Try.underlying110
  a51 := Try.isAgg110
  z51 := Try.sizeOf110
  v51 := Try.zeroValue110
  i51 := by kernel_rfl
  t53 := Try.underlying112
  a53 := Try.isAgg112
  z53 := Try.sizeOf112
  v53 := Try.zeroValue112
  i53 := by kernel_rfl
  t54 := Try.underlying113
  a54 := Try.isAgg113
  z54 := Try.sizeOf113
  v54 := Try.zeroValue113
  i54 := by kernel_rfl
  t58 := Try.underlying117
  a58 := Try.isAgg117
  z58 := Try.sizeOf117
  v58 := Try.zeroValue117
  i58 := by kernel_rfl
  t60 := Try.underlying119
  a60 := Try.isAgg119
  z60 := Try.sizeOf119
  v60 := Try.zeroValue119
  i60 := by kernel_rfl
  t64 := Try.underlying123
  a64 := Try.isAgg123
  z64 := Try.sizeOf123
  v64 := Try.zeroValue123
  i64 := by kernel_rfl
  t66 := Try.underlying125
  a66 := Try.isAgg125
  z66 := Try.sizeOf125
  v66 := Try.zeroValue125
  i66 := by kernel_rfl
  t67 := Try.underlying126
  a67 := Try.isAgg126
  z67 := Try.sizeOf126
  v67 := Try.zeroValue126
  i67 := by kernel_rfl
  t75 := Try.underlying134
  a75 := Try.isAgg134
  z75 := Try.sizeOf134
  v75 := Try.zeroValue134
  i75 := by kernel_rfl
  t76 := Try.underlying135
  a76 := Try.isAgg135
  z76 := Try.sizeOf135
  v76 := Try.zeroValue135
  i76 := by kernel_rfl
  t77 := Try.underlying136
  a77 := Try.isAgg136
  z77 := Try.sizeOf136
  v77 := Try.zeroValue136
  i77 := by kernel_rfl
  t78 := Try.underlying137
  a78 := Try.isAgg137
  z78 := Try.sizeOf137
  v78 := Try.zeroValue137
  i78 := by kernel_rfl
  t79 := Try.underlying138
  a79 := Try.isAgg138
  z79 := Try.sizeOf138
  v79 := Try.zeroValue138
  i79 := by kernel_rfl
  t80 := Try.underlying139
  a80 := Try.isAgg139
  z80 := Try.sizeOf139
  v80 := Try.zeroValue139
  i80 := by kernel_rfl
  t82 := Try.underlying141
  a82 := Try.isAgg141
  z82 := Try.sizeOf141
  v82 := Try.zeroValue141
  i82 := by kernel_rfl }
end Go.Proofs
