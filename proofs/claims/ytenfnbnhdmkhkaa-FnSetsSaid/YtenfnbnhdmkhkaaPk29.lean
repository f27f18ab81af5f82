/-
  Texts that a law leans on, one behind the other; no statement is proved here.
-/
import Derived.Test.YtenfnbnhdmkhkaaPk10
import Derived.Test.YtenfnbnhdmkhkaaPk12
import Derived.Test.YtenfnbnhdmkhkaaPk28
import Derived.Test.YtenfnbnhdmkhkaaPk19
import Derived.Test.YtenfnbnhdmkhkaaPk27
/-
  Cells of a list of values, of a list of texts: the same behind later calls.
-/
namespace Go.Proofs.Ytenfnbnhdmkhkaa
open Go.RowKit
set_option linter.unusedVariables false
set_option linter.unusedSimpArgs false

theorem KSeg.none_at {R : Nat → Prop} {w : World} {b off : Nat} {n cap : Nat} {ks : List (List Int)} (h : KSeg R w (.slice (some ⟨b, off, none⟩) n cap) ks) {k : Nat} (hk : k < ks.length) {ta : Option Addr} {l tc : Nat} (hq : w.cell? ⟨b, off + k, none⟩ = some (.slice ta l tc)) : ta = none → tc = 0 := by
  obtain ⟨a', cap', h1, h2, h3, h4, h5⟩ := h
  simp only [Value.slice.injEq] at h1
  obtain ⟨rfl, _, _⟩ := h1
  rcases h5 with h0 | ⟨b, off, e, _, hc⟩
  · subst h0; simp at hk
  · simp only [Option.some.injEq, Addr.mk.injEq] at e
    obtain ⟨rfl, rfl, _⟩ := e
    obtain ⟨u, hu, a2, c2, rfl, s2, l2, m2, k2, _⟩ := hc k hk
    rw [hq] at hu
    simp at hu
    obtain ⟨rfl, _, rfl⟩ := hu
    exact k2

theorem five_same {N : Nat} {w wr wx : World} {d : Nat} {b off n cap : Nat} {l : List (Vl d)} {c : Value × Value × Value × Value × Value} (h : LSeg (fun b => b < N) w d (.slice (some ⟨b, off, none⟩) n cap) l) (hx : Below w.heap.size w wx) (hr : Below w.heap.size w wr) (hN : N ≤ w.heap.size) {k : Nat} (hk : k < l.length) (h5 : Five wr b (off + k * 5) c) : Five wx b (off + k * 5) c := by
  obtain ⟨a', cap', h1, h2, h3, h4, h5'⟩ := h
  simp only [Value.slice.injEq] at h1
  obtain ⟨rfl, _, _⟩ := h1
  rcases h5' with h0 | ⟨b', off', e, hR, hc⟩
  · subst h0; simp at hk
  · simp only [Option.some.injEq, Addr.mk.injEq] at e
    obtain ⟨rfl, rfl, _⟩ := e
    have hbr : wr.heap[b]? = w.heap[b]? := hr.block b (by omega)
    have hbx : wx.heap[b]? = w.heap[b]? := hx.block b (by omega)
    have hcc : ∀ j, wx.cell? ⟨b, j, none⟩ = wr.cell? ⟨b, j, none⟩ := fun j => World.cell?_of_block (hbx.trans hbr.symm)
    exact ⟨(hcc _).trans h5.1, (hcc _).trans h5.2.1, (hcc _).trans h5.2.2.1, (hcc _).trans h5.2.2.2.1, (hcc _).trans h5.2.2.2.2⟩

end Go.Proofs.Ytenfnbnhdmkhkaa
/-
  ValBytes of the specification: l2put of lists and maps, of all; ValBytes.
-/
namespace Go.Proofs.Ytenfnbnhdmkhkaa
open Go.RowKit
set_option linter.unusedVariables false
set_option linter.unusedSimpArgs false

theorem kid_list (d : Nat) (K : List (List Int)) (L : List (Vl d)) (b : List Int) (k : Nat) (h : k < L.length) : kidB (fun x b => bytV d x b) false K L b (k + 1) = bytV d L[k] (kidB (fun x b => bytV d x b) false K L b k) := by
  rw [kidB_succ _ _ _ _ _ _ h]; rfl
theorem kid_map (d : Nat) (K : List (List Int)) (L : List (Vl d)) (b : List Int) (k : Nat) (h : k < L.length) : kidB (fun x b => bytV d x b) true K L b (k + 1) = bytV d L[k] (putText (kidB (fun x b => bytV d x b) true K L b k) (K.getD k [])) := by
  rw [kidB_succ _ _ _ _ _ _ h]; rfl
theorem kid_zero (d : Nat) (m : Bool) (K : List (List Int)) (L : List (Vl d)) (b : List Int) : kidB (fun x b => bytV d x b) m K L b 0 = b := rfl

theorem kid_room (d : Nat) (m : Bool) (K : List (List Int)) (L : List (Vl d)) (b : List Int) (M : Nat) (hM : b.length + 60 * pre (partsV d) L L.length + 25 ≤ M) (k : Nat) (h : k < L.length) : (kidB (fun x b => bytV d x b) m K L b k).length + 25 + 60 * partsV d L[k] ≤ M := by
  have h1 := kidB_len (fun x b => bytV d x b) (partsV d) (fun x b => bytV_len d x b) m K L b k (by omega)
  have h3 := pre_succ (partsV d) L k h
  have h4 := pre_le (partsV d) L (k + 1)
  have h5 := pre_all (partsV d) L
  omega

set_option maxHeartbeats 3000000 in
set_option maxRecDepth 100000 in
theorem l2put_list (d : Nat) (ih : SByAt d) (N : Nat) (a : Option Addr) (cap : Nat) (xs : List Int) (vn : Int) (vs : List Int) (vK : List (List Int)) (vL : List (Vl d)) (a2 : Option Addr) (l2 p2 : Nat) (a3 : Option Addr) (p3 : Nat) (a4 : Option Addr) (p4 : Nat) (deep : Nat) (w : World) (hN : N ≤ w.heap.size) (hs : Seg w a xs) (ka : a = none → cap = 0)
    (hl : LSeg (fun b => b < N) w d (.slice a4 vL.length p4) vL) (hk : KSeg (fun b => b < N) w (.slice a3 vK.length p3) vK) (hkl : True) (hkt : ∀ j, j < vK.length → (vK.getD j []).length ≤ 1000) (hg : ∀ j (h : j < vL.length), goodB d vL[j] deep = true) (hn : vL.length ≤ 9223372036854775807) (hlen : xs.length + 60 * (1 + pre (partsV d) vL vL.length) ≤ 1000000) :
    Calls Try.prog 49 #[.slice a xs.length cap, .agg #[.int .i64 4, .int .i64 vn, .slice a2 l2 p2, .slice a3 vK.length p3, .slice a4 vL.length p4]] w fun e w' => ∃ u, e = .returned u ∧ Bts w' w.heap.size u (bytV (d + 1) (4, vn, vs, vK, vL) xs) ∧ Below w.heap.size w w' := by
  have b0 : ∀ o : Obj, Below w.heap.size w (w.alloc o) := fun o => (Below.refl _ _).alloc (Nat.le_refl _) o
  have Hb := hide' b0
  have HL := hide' hl
  have HK := hide' hk
  have HI := hide' ih
  have HG := hide' hg
  have HKL := hide' hkl
  have HKT := hide' hkt
  have H1 : Hid (∀ o : Obj, Calls Try.prog 62 #[.slice a xs.length cap, .int .i64 4] (w.alloc o) (PEnd (w.alloc o) (putNum xs 4))) := fun o => spec_PutNum_end a cap xs 4 _ (hs.grow (b0 o)) ka (by omega)
  have hpl := putNum_len xs 4
  have hpl2 := putNum_len (putNum xs 4) vL.length
  obtain ⟨B0, hB0⟩ : ∃ B0, B0 = putNum (putNum xs 4) vL.length := ⟨_, rfl⟩
  rw [← hB0] at hpl2
  have HRoom : Hid (∀ k (h : k < vL.length), (kidB (fun x b => bytV d x b) false vK vL B0 k).length + 25 + 60 * partsV d vL[k] ≤ 1000000) := fun k h => kid_room d false vK vL B0 1000000 (by omega) k h
  have HF : Hid (bytV (d + 1) (4, vn, vs, vK, vL) xs = kidB (fun x b => bytV d x b) false vK vL B0 vL.length) := by show _ = _; rw [hB0]; exact bytV_list d vn vs vK vL xs
  have HSt : Hid (∀ k (h : k < vL.length), kidB (fun x b => bytV d x b) false vK vL B0 (k + 1) = bytV d vL[k] (kidB (fun x b => bytV d x b) false vK vL B0 k)) := fun k h => kid_list d vK vL B0 k h
  have HZ : Hid (kidB (fun x b => bytV d x b) false vK vL B0 0 = B0) := rfl
  generalize hkid : kidB (fun x b => bytV d x b) false vK vL B0 = kid at *
  have hP2 : Hid (∀ (a1 : Option Addr) (c1 : Nat) (wx : World), Bts wx 0 (.slice a1 (putNum xs 4).length c1) (putNum xs 4) → (a1 = none → c1 = 0) → Calls Try.prog 62 #[.slice a1 (putNum xs 4).length c1, .int .i64 vL.length] wx (PEnd wx B0)) := fun a1 c1 wx hB k => by rw [hB0]; exact spec_PutNum_end a1 c1 _ _ wx hB.seg k (by omega)
  obtain ⟨ob, HOb⟩ : ∃ ob, Hid (ob = Obj.cells #[.int .i64 4, .int .i64 vn, .slice a2 l2 p2, .slice a3 vK.length p3, .slice a4 vL.length p4] 26) := ⟨_, rfl⟩
  clear b0 hs hl hk hg ih hlen hkid hB0 hkl hkt
  go_enter Try.func49, Try.ntmps49
  go_wp2_with fail
  refine (H1.out _).mono ?_
  rintro e w1 ⟨a1, c1, rfl, hB1, b1, k1⟩
  obtain ⟨y0, y1, y2, y3, y4, _⟩ := row5 (box_row b1)
  have Bb1 : Hid (Below (w.alloc ob).heap.size (w.alloc ob) w1) := by rw [HOb.out]; exact b1
  have H2 := hide' (hP2.out a1 c1 w1 (hB1.mono (by omega)) k1)
  generalize (putNum xs 4).length = n1 at *
  clear b1 hB1 hP2
  go_wp2_with fail
  refine H2.out.mono ?_
  rintro e w2 ⟨a2', c2', rfl, hB2, b2, k2'⟩
  clear y0 y1 y2 y3 y4
  have Bb2 : Hid (Below (w.alloc ob).heap.size (w.alloc ob) w2) := Below.on Bb1.out b2
  have hrow := box_row Bb2.out
  rw [HOb.out] at hrow
  obtain ⟨y0, y1, y2, y3, y4, _⟩ := row5 hrow
  have HB2 : Hid (Bts w2 w.heap.size (.slice a2' B0.length c2') B0) := hB2.mono (by have := Bb1.out.size; simp at this; omega)
  generalize hn0 : B0.length = n0 at *
  clear b2 hB2 H2 hrow hn0
  go_wp2
  go_loopw [0, 7] (fun y i wr => ∃ k : Nat, k ≤ vL.length ∧ i = .int .i64 k ∧ Hid (Bts wr w.heap.size y (kid k)) ∧ Hid (Below (w.alloc ob).heap.size (w.alloc ob) wr)) (fun _ i _ => vL.length - (intOf i).toNat)
  case atStart => exact ⟨0, Nat.zero_le _, rfl, by rw [HZ.out]; exact HB2, Bb2⟩
  case round =>
    clear y0 y1 y2 y3 y4
    obtain ⟨k, hk, rfl, hB, hbel⟩ := hrel
    have hrow := box_row hbel.out
    rw [HOb.out] at hrow
    obtain ⟨y0, y1, y2, y3, y4, _⟩ := row5 hrow
    have B := Below.on (Hb.out ob) hbel.out
    clear hrow
    obtain ⟨ya, yc, rfl, _, _, _, _, kk⟩ := hB.out.shape
    by_cases hlt : k < vL.length
    · have hlt' : (k : Int) < (vL.length : Int) := by omega
      have hroom := HRoom.out k hlt
      obtain ⟨b, off, c, rfl, h5', hv⟩ := HL.out.at B hN hlt
      have HV := hide' hv
      obtain ⟨c0, c1', c2, c3, c4⟩ := c
      obtain ⟨q0, q1, q2, q3, q4⟩ := h5'
      simp only at q0 q1 q2 q3 q4
      have hz := B.size
      have HC := hide' (HI.out N ya yc (kid k) (c0, c1', c2, c3, c4) vL[k] deep wr (HV.out wr B) (by omega) hB.out.seg kk (HG.out k hlt) (by omega))
      rw [← HSt.out k hlt] at HC
      generalize (kid k).length = n2 at *
      clear hv hB
      go_wp2_with fail
      refine HC.out.mono ?_
      rintro e w3 ⟨u, rfl, hB3, b3⟩
      have B3 : Hid (Below (w.alloc ob).heap.size (w.alloc ob) w3) := Below.on hbel.out b3
      have HB3 : Hid (Bts w3 w.heap.size u (kid (k + 1))) := hB3.mono (by omega)
      obtain ⟨ya3, yc3, hu, _, _, _, _, _⟩ := hB3.shape
      generalize (kid (k + 1)).length = n3 at *
      subst hu
      clear q0 q1 q2 q3 q4 b3 HC hB3
      go_wp2
      go_roundw
      case rel => exact ⟨k + 1, by omega, by go_num, HB3, B3⟩
      case measure => simp [intOf]; omega
    · have hkn : k = vL.length := by omega
      have hlt' : ¬ (k : Int) < (vL.length : Int) := by omega
      have HE : Hid (Bts wr w.heap.size (.slice ya (kid k).length yc) (bytV (d + 1) (4, vn, vs, vK, vL) xs)) := by rw [HF.out, ← hkn]; exact hB
      clear hkn hB
      generalize (kid k).length = n1' at *
      go_wp2
      go_ret
      exact ⟨_, rfl, HE.out, B⟩

set_option maxHeartbeats 3000000 in
set_option maxRecDepth 100000 in
theorem l2put_map (d : Nat) (ih : SByAt d) (N : Nat) (a : Option Addr) (cap : Nat) (xs : List Int) (vn : Int) (vs : List Int) (vK : List (List Int)) (vL : List (Vl d)) (a2 : Option Addr) (l2 p2 : Nat) (a3 : Option Addr) (p3 : Nat) (a4 : Option Addr) (p4 : Nat) (deep : Nat) (w : World) (hN : N ≤ w.heap.size) (hs : Seg w a xs) (ka : a = none → cap = 0)
    (hl : LSeg (fun b => b < N) w d (.slice a4 vL.length p4) vL) (hk : KSeg (fun b => b < N) w (.slice a3 vK.length p3) vK) (hkl : vK.length = vL.length) (hkt : ∀ j, j < vK.length → (vK.getD j []).length ≤ 1000) (hg : ∀ j (h : j < vL.length), goodB d vL[j] deep = true) (hn : vL.length ≤ 9223372036854775807) (hlen : xs.length + 60 * (1 + pre (partsV d) vL vL.length) ≤ 1000000) :
    Calls Try.prog 49 #[.slice a xs.length cap, .agg #[.int .i64 5, .int .i64 vn, .slice a2 l2 p2, .slice a3 vK.length p3, .slice a4 vL.length p4]] w fun e w' => ∃ u, e = .returned u ∧ Bts w' w.heap.size u (bytV (d + 1) (5, vn, vs, vK, vL) xs) ∧ Below w.heap.size w w' := by
  have b0 : ∀ o : Obj, Below w.heap.size w (w.alloc o) := fun o => (Below.refl _ _).alloc (Nat.le_refl _) o
  have Hb := hide' b0
  have HL := hide' hl
  have HK := hide' hk
  have HI := hide' ih
  have HG := hide' hg
  have HKL := hide' hkl
  have HKT := hide' hkt
  have H1 : Hid (∀ o : Obj, Calls Try.prog 62 #[.slice a xs.length cap, .int .i64 5] (w.alloc o) (PEnd (w.alloc o) (putNum xs 5))) := fun o => spec_PutNum_end a cap xs 5 _ (hs.grow (b0 o)) ka (by omega)
  have hpl := putNum_len xs 5
  have hpl2 := putNum_len (putNum xs 5) vL.length
  obtain ⟨B0, hB0⟩ : ∃ B0, B0 = putNum (putNum xs 5) vL.length := ⟨_, rfl⟩
  rw [← hB0] at hpl2
  have HRoom : Hid (∀ k (h : k < vL.length), (kidB (fun x b => bytV d x b) true vK vL B0 k).length + 25 + 60 * partsV d vL[k] ≤ 1000000) := fun k h => kid_room d true vK vL B0 1000000 (by omega) k h
  have HF : Hid (bytV (d + 1) (5, vn, vs, vK, vL) xs = kidB (fun x b => bytV d x b) true vK vL B0 vL.length) := by show _ = _; rw [hB0]; exact bytV_map d vn vs vK vL xs
  have HSt : Hid (∀ k (h : k < vL.length), kidB (fun x b => bytV d x b) true vK vL B0 (k + 1) = bytV d vL[k] (putText (kidB (fun x b => bytV d x b) true vK vL B0 k) (vK.getD k []))) := fun k h => kid_map d vK vL B0 k h
  have HZ : Hid (kidB (fun x b => bytV d x b) true vK vL B0 0 = B0) := rfl
  generalize hkid : kidB (fun x b => bytV d x b) true vK vL B0 = kid at *
  have hP2 : Hid (∀ (a1 : Option Addr) (c1 : Nat) (wx : World), Bts wx 0 (.slice a1 (putNum xs 5).length c1) (putNum xs 5) → (a1 = none → c1 = 0) → Calls Try.prog 62 #[.slice a1 (putNum xs 5).length c1, .int .i64 vL.length] wx (PEnd wx B0)) := fun a1 c1 wx hB k => by rw [hB0]; exact spec_PutNum_end a1 c1 _ _ wx hB.seg k (by omega)
  obtain ⟨ob, HOb⟩ : ∃ ob, Hid (ob = Obj.cells #[.int .i64 5, .int .i64 vn, .slice a2 l2 p2, .slice a3 vK.length p3, .slice a4 vL.length p4] 26) := ⟨_, rfl⟩
  clear b0 hs hl hk hg ih hlen hkid hB0 hkl hkt
  go_enter Try.func49, Try.ntmps49
  go_wp2_with fail
  refine (H1.out _).mono ?_
  rintro e w1 ⟨a1, c1, rfl, hB1, b1, k1⟩
  obtain ⟨y0, y1, y2, y3, y4, _⟩ := row5 (box_row b1)
  have Bb1 : Hid (Below (w.alloc ob).heap.size (w.alloc ob) w1) := by rw [HOb.out]; exact b1
  have H2 := hide' (hP2.out a1 c1 w1 (hB1.mono (by omega)) k1)
  generalize (putNum xs 5).length = n1 at *
  clear b1 hB1 hP2
  go_wp2_with fail
  refine H2.out.mono ?_
  rintro e w2 ⟨a2', c2', rfl, hB2, b2, k2'⟩
  clear y0 y1 y2 y3 y4
  have Bb2 : Hid (Below (w.alloc ob).heap.size (w.alloc ob) w2) := Below.on Bb1.out b2
  have hrow := box_row Bb2.out
  rw [HOb.out] at hrow
  obtain ⟨y0, y1, y2, y3, y4, _⟩ := row5 hrow
  have HB2 : Hid (Bts w2 w.heap.size (.slice a2' B0.length c2') B0) := hB2.mono (by have := Bb1.out.size; simp at this; omega)
  generalize hn0 : B0.length = n0 at *
  clear b2 hB2 H2 hrow hn0
  go_wp2
  go_loopw [0, 7] (fun y i wr => ∃ k : Nat, k ≤ vL.length ∧ i = .int .i64 k ∧ Hid (Bts wr w.heap.size y (kid k)) ∧ Hid (Below (w.alloc ob).heap.size (w.alloc ob) wr)) (fun _ i _ => vL.length - (intOf i).toNat)
  case atStart => exact ⟨0, Nat.zero_le _, rfl, by rw [HZ.out]; exact HB2, Bb2⟩
  case round =>
    clear y0 y1 y2 y3 y4
    obtain ⟨k, hk, rfl, hB, hbel⟩ := hrel
    have hrow := box_row hbel.out
    rw [HOb.out] at hrow
    obtain ⟨y0, y1, y2, y3, y4, _⟩ := row5 hrow
    have B := Below.on (Hb.out ob) hbel.out
    clear hrow
    obtain ⟨ya, yc, rfl, _, _, _, _, kk⟩ := hB.out.shape
    by_cases hlt : k < vL.length
    · have hlt' : (k : Int) < (vL.length : Int) := by omega
      have hroom := HRoom.out k hlt
      obtain ⟨b, off, c, rfl, h5', hv⟩ := HL.out.at B hN hlt
      have HV := hide' hv
      obtain ⟨c0, c1', c2, c3, c4⟩ := c
      obtain ⟨q0, q1, q2, q3, q4⟩ := h5'
      simp only at q0 q1 q2 q3 q4
      have hz := B.size
      have hlt3 : k < vK.length := by rw [HKL.out]; exact hlt
      have hlt3' : (k : Int) < (vK.length : Int) := by omega
      obtain ⟨bk, ok, rfl, hkc⟩ := (HK.out.agree (agree_below (B.mono hN))).at hlt3
      obtain ⟨ta, tc, qk, sk, mk⟩ := hkc k hlt3
      have ktc : ta = none → tc = 0 := (KSeg.none_at (HK.out.agree (agree_below (B.mono hN))) hlt3 qk)
      have HT := hide' (spec_PutText_end ya ta yc tc (kid k) (vK.getD k []) wr hB.out.seg sk kk ktc (by omega) (by have := HKT.out k hlt3; omega))
      have hptl := putText_len (kid k) (vK.getD k [])
      have HS1 := HSt.out k hlt
      obtain ⟨ts, hts⟩ : ∃ ts, ts = vK.getD k [] := ⟨_, rfl⟩
      rw [← hts] at HT qk hptl HS1
      obtain ⟨zz, hzz⟩ : ∃ zz, zz = putText (kid k) ts := ⟨_, rfl⟩
      rw [← hzz] at HT hptl HS1
      have HI2 : Hid (∀ (ua : Option Addr) (uc : Nat) (wx : World), Below w.heap.size w wx → Bts wx wr.heap.size (.slice ua zz.length uc) zz → (ua = none → uc = 0) → Calls Try.prog 49 #[.slice ua zz.length uc, .agg #[c0, c1', c2, c3, c4]] wx fun e w' => ∃ u, e = .returned u ∧ Bts w' wx.heap.size u (kid (k + 1)) ∧ Below wx.heap.size wx w') := fun ua uc wx hb hB' hk' => by
        rw [HS1]
        exact HI.out N ua uc zz (c0, c1', c2, c3, c4) vL[k] deep wx (HV.out wx hb) (by have := hb.size; omega) hB'.seg hk' (HG.out k hlt) (by omega)
      have hq : Hid (∀ wx, Below w.heap.size w wx → Five wx b (off + k * 5) (c0, c1', c2, c3, c4)) := fun wx hb => five_same HL.out hb B hN hlt ⟨q0, q1, q2, q3, q4⟩
      generalize (kid k).length = n2 at *
      generalize ts.length = n4 at *
      clear hv hB sk mk hkc hts hzz HS1 q0 q1 q2 q3 q4
      go_wp2_with fail
      refine HT.out.mono ?_
      rintro e w3 ⟨ua, uc, rfl, hB3, b3, k3⟩
      clear y0 y1 y2 y3 y4
      have B3 : Hid (Below (w.alloc ob).heap.size (w.alloc ob) w3) := Below.on hbel.out b3
      have B3' := Below.on B b3
      have hrow := box_row B3.out
      rw [HOb.out] at hrow
      obtain ⟨y0, y1, y2, y3, y4, _⟩ := row5 hrow
      obtain ⟨q0, q1, q2, q3, q4⟩ := hq.out w3 B3'
      simp only at q0 q1 q2 q3 q4
      have HC := hide' (HI2.out ua uc w3 B3' hB3 k3)
      have hz3 := B3'.size
      generalize zz.length = n5 at *
      clear b3 hB3 hrow HI2 HT qk
      go_wp2_with fail
      refine HC.out.mono ?_
      rintro e w4 ⟨u, rfl, hB4, b4⟩
      have B4 : Hid (Below (w.alloc ob).heap.size (w.alloc ob) w4) := Below.on B3.out b4
      have HB4 : Hid (Bts w4 w.heap.size u (kid (k + 1))) := hB4.mono (by omega)
      obtain ⟨ya4, yc4, hu, _, _, _, _, _⟩ := hB4.shape
      generalize (kid (k + 1)).length = n3 at *
      subst hu
      clear q0 q1 q2 q3 q4 b4 HC hB4
      go_wp2
      go_roundw
      case rel => exact ⟨k + 1, by omega, by go_num, HB4, B4⟩
      case measure => simp [intOf]; omega
    · have hkn : k = vL.length := by omega
      have hlt' : ¬ (k : Int) < (vL.length : Int) := by omega
      have HE : Hid (Bts wr w.heap.size (.slice ya (kid k).length yc) (bytV (d + 1) (5, vn, vs, vK, vL) xs)) := by rw [HF.out, ← hkn]; exact hB
      clear hkn hB
      generalize (kid k).length = n1' at *
      go_wp2
      go_ret
      exact ⟨_, rfl, HE.out, B⟩
end Go.Proofs.Ytenfnbnhdmkhkaa
/-
  ValBytes of the specification: l2put of whatever value, ValBytes.
-/
namespace Go.Proofs.Ytenfnbnhdmkhkaa
open Go.RowKit
set_option linter.unusedVariables false
set_option linter.unusedSimpArgs false

theorem shape_kinds {vk vn : Int} {vs : List Int} {vK : List (List Int)} {n : Nat} (h : shapeB vk vn vs vK n = true) :
    vs.length ≤ 20 ∧ ((vk = 0 ∨ vk = 6 ∨ vk = 1 ∨ vk = 3) ∨ (vk = 2 ∧ -1000000000000 ≤ vn ∧ vn ≤ 1000000000000) ∨ (vk = 4 ∧ vK.length = 0) ∨ (vk = 5 ∧ vK.length = n ∧ ascB vK = true)) := by
  unfold shapeB bareB intB at h
  simp only [Bool.and_eq_true, Bool.or_eq_true, decide_eq_true_eq] at h
  obtain ⟨⟨⟨⟨h1, h2⟩, h3⟩, h4⟩, h5⟩ := h
  have htx : textB vs = true → vs.length ≤ 20 := fun ht => by
    unfold textB at ht
    simp only [Bool.and_eq_true, decide_eq_true_eq] at ht
    exact ht.1
  rcases h5 with (((((h5 | h5) | h5) | h5) | h5) | h5) | h5
  · exact ⟨by omega, .inl (.inl h5)⟩
  · exact ⟨by omega, .inl (.inr (.inl h5))⟩
  · exact ⟨by omega, .inl (.inr (.inr (.inl h5.1)))⟩
  · exact ⟨by omega, .inr (.inl ⟨h5.1, h5.2.1, h5.2.2⟩)⟩
  · exact ⟨htx h5.2, .inl (.inr (.inr (.inr h5.1)))⟩
  · exact ⟨by omega, .inr (.inr (.inl ⟨h5, by omega⟩))⟩
  · exact ⟨by omega, .inr (.inr (.inr ⟨h5.1, h5.2.1, h5.2.2⟩))⟩

theorem asc_short {vK : List (List Int)} (h : ascB vK = true) (j : Nat) (hj : j < vK.length) : (vK.getD j []).length ≤ 8 := by
  have h1 := ascB_at h hj
  unfold stepB nameB at h1
  simp only [Bool.and_eq_true, decide_eq_true_eq] at h1
  exact h1.1.1.2

theorem l2put_succ (d : Nat) (ih : SByAt d) : SByAt (d + 1) := by
  intro N a cap xs c v deep w hv hN hs ka hg hlen
  obtain ⟨c0, c1, c2, c3, c4⟩ := c
  obtain ⟨vk, vn, vs, vK, vL⟩ := v
  obtain ⟨_, hsh, hkids⟩ := (good_succ _ _ _ _ _ _ _).1 hg
  obtain ⟨hvs, hk⟩ := shape_kinds hsh
  obtain ⟨e0, e1, ht, hK, hl⟩ := (VSeg_succ _ _ _ _ _).1 hv
  simp only at e0 e1 ht hK hl
  subst e0
  subst e1
  have hp := parts_succ d vk vn vs vK vL
  rw [hp] at hlen
  have hl' := hl
  have hK' := hK
  obtain ⟨a2, p2, rfl, s2, l2, m2, k2, r2⟩ := ht
  obtain ⟨a3, p3, rfl, _⟩ := hK
  obtain ⟨a4, p4, rfl, hlc4, hcm4, _⟩ := hl
  unfold maxLen at hcm4
  rcases hk with hk | ⟨rfl, hlo, hhi⟩ | ⟨rfl, h0⟩ | ⟨rfl, h1, h2⟩
  · exact l2put_leaf d N a cap xs vk vn vs vK vL a2 p2 _ _ w hs ka (by omega) s2 k2 (by omega) ⟨_, _, _, rfl⟩ ⟨_, _, _, rfl⟩ hk
  · exact l2put_int d N a cap xs vn vs vK vL a2 p2 _ _ w hs ka (by omega) s2 k2 (by omega) ⟨_, _, _, rfl⟩ ⟨_, _, _, rfl⟩ hlo hhi
  · exact l2put_list d ih N a cap xs vn vs vK vL a2 _ p2 a3 p3 a4 p4 (deep + 1) w hN hs ka hl' hK' trivial (fun j hj => by omega) hkids (by omega) hlen
  · exact l2put_map d ih N a cap xs vn vs vK vL a2 _ p2 a3 p3 a4 p4 (deep + 1) w hN hs ka hl' hK' h1 (fun j hj => by have := asc_short h2 j hj; omega) hkids (by omega) hlen

theorem l2put_any (d : Nat) : SByAt d := by
  induction d with
  | zero => intro N a cap xs c v deep w hv; exact hv.elim
  | succ d ih => exact l2put_succ d ih

theorem okB_parts {d : Nat} {v : Vl d} (h : okB d v = true) : goodB d v 1 = true ∧ partsV d v ≤ 40 := by
  unfold okB at h
  simp only [Bool.and_eq_true, decide_eq_true_eq] at h
  exact h

/-- What ValBytes has answered. -/
def ByEnd (d : Nat) (v : Vl d) (w : World) (e : Ending) (w' : World) : Prop := ∃ a n c, e = .returned (.tuple #[.slice a n c, .bool (okB d v)]) ∧ Bts w' w.heap.size (.slice a n c) (valBytes d v) ∧ Below w.heap.size w w'

set_option maxHeartbeats 1600000 in
set_option maxRecDepth 100000 in
theorem spec_ValBytes_any (d N : Nat) (c0 c1 c2 c3 c4 : Value) (v : Vl d) (w : World) (hv : VSeg (fun b => b < N) w d (c0, c1, c2, c3, c4) v) (hN : N ≤ w.heap.size) :
    Calls Try.prog 29 #[.agg #[c0, c1, c2, c3, c4]] w (ByEnd d v w) := by
  have b0 : ∀ o : Obj, Below w.heap.size w (w.alloc o) := fun o => (Below.refl _ _).alloc (Nat.le_refl _) o
  have Hb := hide' b0
  have HC : Hid (∀ wx, Below w.heap.size w wx → Calls Try.prog 9 #[.agg #[c0, c1, c2, c3, c4]] wx fun e w' => e = .returned (.bool (okB d v)) ∧ Below wx.heap.size wx w') := fun wx hb =>
    spec_ValOk_any d N c0 c1 c2 c3 c4 v wx (VSeg.agree (agree_below (hb.mono hN)) d hv) (by have := hb.size; omega)
  have HP : Hid (okB d v = true → ∀ wx, Below w.heap.size w wx → Calls Try.prog 49 #[.slice none 0 0, .agg #[c0, c1, c2, c3, c4]] wx fun e w' => ∃ a n c, e = .returned (.slice a n c) ∧ Bts w' wx.heap.size (.slice a n c) (valBytes d v) ∧ Below wx.heap.size wx w') := fun hok wx hb => by
    obtain ⟨h1, h2⟩ := okB_parts hok
    refine (l2put_any d N none 0 [] (c0, c1, c2, c3, c4) v 1 wx (VSeg.agree (agree_below (hb.mono hN)) d hv) (by have := hb.size; omega) ⟨by simp, .inl rfl⟩ (fun _ => rfl) h1 (by simp; omega)).mono ?_
    rintro e w' ⟨u, rfl, hB, hbw⟩
    obtain ⟨a, c, rfl, _⟩ := hB.shape
    exact ⟨a, _, c, rfl, by rw [valBytes, if_pos hok]; exact hB, hbw⟩
  obtain ⟨vk, vn, a2, l2, p2, a3, l3, p3, a4, l4, p4, rfl, rfl, rfl, rfl, rfl⟩ := VSeg.form d hv
  clear hv b0
  cases hok : okB d v with
  | true =>
    have HP2 := hide' (HP.out hok)
    rw [hok] at HC
    go_enter Try.func29, Try.ntmps29
    go_wp2_with fail
    refine (HC.out _ (Hb.out _)).mono ?_
    rintro e w1 ⟨rfl, b1⟩
    obtain ⟨y0, y1, y2, y3, y4, _⟩ := row5 (box_row b1)
    have B1 := Below.on (Hb.out _) b1
    clear b1
    go_wp2_with fail
    refine (HP2.out _ B1).mono ?_
    rintro e w2 ⟨a, n, c, rfl, hB, b2⟩
    have B2 := Below.on B1 b2
    have HB := hide' (hB.mono (base' := w.heap.size) B1.size)
    clear b2 hB
    go_wp2
    go_ret2
    exact ⟨a, n, c, by rw [hok]; rfl, HB.out, B2⟩
  | false =>
    rw [hok] at HC
    go_enter Try.func29, Try.ntmps29
    go_wp2_with fail
    refine (HC.out _ (Hb.out _)).mono ?_
    rintro e w1 ⟨rfl, b1⟩
    have B1 := Below.on (Hb.out _) b1
    clear b1
    go_wp2
    go_ret2
    exact ⟨none, 0, 0, by rw [hok]; rfl, by rw [valBytes, hok]; exact bts_nil _ _, B1⟩
end Go.Proofs.Ytenfnbnhdmkhkaa
/-
  Good values that are alike have the same bytes. Plain mathematics.
-/
namespace Go.Proofs.Ytenfnbnhdmkhkaa
open Go.RowKit
set_option linter.unusedVariables false
set_option linter.unusedSimpArgs false

theorem kid_same {α : Type} (f : α → List Int → List Int) (m : Bool) (Ka Kb : List (List Int)) (La Lb : List α) (b : List Int) (hl : La.length = Lb.length) (hf : ∀ i (h : i < La.length) (h' : i < Lb.length), (∀ P, f La[i] P = f Lb[i] P) ∧ (m = true → Ka.getD i [] = Kb.getD i [])) : ∀ k, k ≤ La.length → kidB f m Ka La b k = kidB f m Kb Lb b k
  | 0, _ => rfl
  | k + 1, hk => by
    rw [kidB_succ f m Ka La b k (by omega), kidB_succ f m Kb Lb b k (by omega), kid_same f m Ka Kb La Lb b hl hf k (by omega)]
    obtain ⟨h1, h2⟩ := hf k (by omega) (by omega)
    rw [h1]
    cases m
    · rfl
    · rw [h2 rfl]

theorem val_same : ∀ (d : Nat) (a b : Vl d) (da db : Nat) (xs : List Int), goodB d a da = true → goodB d b db = true → cmpV d a b = 0 → bytV d a xs = bytV d b xs
  | 0, a, _, _, _, _, _, _, _ => a.elim
  | d + 1, (ak, an, aS, aK, aL), (bk, bn, bS, bK, bL), da, db, xs, ha, hb, h => by
    obtain ⟨_, sa, ga⟩ := (good_succ _ _ _ _ _ _ _).1 ha
    obtain ⟨_, sb, gb⟩ := (good_succ _ _ _ _ _ _ _).1 hb
    obtain ⟨ka, na, la⟩ := or_shape sa
    obtain ⟨kb, nb, lb⟩ := or_shape sb
    have h' := (cmpV_lex d (ak, an, aS, aK, aL) (bk, bn, bS, bK, bL)).symm.trans h
    change lex (numC ak bk) (if ak = 3 then bytesC aS bS else lex (numC an bn) (cmpLs (decide (ak = 5)) (cmpV d) aK bK aL bL)) = 0 at h'
    rw [lex_zero] at h'
    obtain ⟨h1, h2⟩ := h'
    have e1 : ak = bk := (num_zero _ _).1 h1
    subst e1
    show (if ak = 1 then putNum (putNum xs ak) an else if ak = 2 then putI (putNum xs ak) an else if ak = 3 then putText (putNum xs ak) aS else if ak = 4 ∨ ak = 5 then kidB (fun x b => bytV d x b) (decide (ak = 5)) aK aL (putNum (putNum xs ak) aL.length) aL.length else putNum xs ak) = (if ak = 1 then putNum (putNum xs ak) bn else if ak = 2 then putI (putNum xs ak) bn else if ak = 3 then putText (putNum xs ak) bS else if ak = 4 ∨ ak = 5 then kidB (fun x b => bytV d x b) (decide (ak = 5)) bK bL (putNum (putNum xs ak) bL.length) bL.length else putNum xs ak)
    by_cases k3 : ak = 3
    · subst k3
      rw [if_pos rfl] at h2
      have ta : ∀ x ∈ aS, Byt x := by rcases ka with h | h | h | h | h | h | h <;> first | exact h.2.2 | omega
      have tb : ∀ x ∈ bS, Byt x := by rcases kb with h | h | h | h | h | h | h <;> first | exact h.2.2 | omega
      rw [(text_zero ta tb).1 h2]
      simp
    · rw [if_neg k3, lex_zero, ls_zero] at h2
      obtain ⟨h3, hlen, hall⟩ := h2
      have en : an = bn := (num_zero _ _).1 h3
      subst en
      rw [if_neg k3, if_neg k3]
      split
      · rfl
      · split
        · rfl
        · split
          · rename_i k4
            rw [hlen]
            have hkb : decide (ak = 5) = true → (∀ i, i < aL.length → ∀ x ∈ aK.getD i [], Byt x) ∧ ∀ i, i < bL.length → ∀ x ∈ bK.getD i [], Byt x := by
              intro h5
              have h5 := of_decide_eq_true h5
              exact ⟨by rcases ka with h | h | h | h | h | h | h <;> first | exact fun i hi => (h.2.2 i hi).2 | omega, by rcases kb with h | h | h | h | h | h | h <;> first | exact fun i hi => (h.2.2 i hi).2 | omega⟩
            have := kid_same (fun x b => bytV d x b) (decide (ak = 5)) aK bK aL bL (putNum (putNum xs ak) bL.length) hlen (fun i g1 g2 => ⟨fun P => val_same d aL[i] bL[i] (da + 1) (db + 1) P (ga i g1) (gb i g2) (hall i g1 g2).1, fun hm => (text_zero ((hkb hm).1 i g1) ((hkb hm).2 i g2)).1 ((hall i g1 g2).2 hm)⟩) aL.length (Nat.le_refl _)
            rw [hlen] at this
            exact this
          · rfl

/-- Alike just if the bytes are. -/
theorem val_bytes {d : Nat} {a b : Vl d} (ha : okB d a = true) (hb : okB d b = true) : cmpV d a b = 0 ↔ valBytes d a = valBytes d b := by
  have ha' := ha
  have hb' := hb
  unfold okB at ha' hb'
  rw [Bool.and_eq_true, decide_eq_true_eq] at ha' hb'
  unfold valBytes
  rw [if_pos ha, if_pos hb]
  constructor
  · exact val_same d a b 1 1 [] ha'.1 hb'.1
  · intro h
    exact (val_inj d a b 1 1 [] [] [] ha'.1 hb'.1 ha'.2 hb'.2 (by rw [h])).1

/-- What FnOrder asks of three values. -/
theorem or_law {d : Nat} {a b c : Vl d} (ha : okB d a = true) (hb : okB d b = true) : vcI d a b = - vcI d b a ∧ (okB d c = true → 0 ≤ vcI d a b → 0 ≤ vcI d b c → 0 ≤ vcI d a c) := by
  refine ⟨?_, fun hc h1 h2 => ?_⟩
  · rw [vcI_yes ha hb, vcI_yes hb ha, val_swap d a b, Int.neg_neg]
  · rw [vcI_yes ha hb] at h1
    rw [vcI_yes hb hc] at h2
    rw [vcI_yes ha hc]
    exact (or_val d a b c h1 h2).1
end Go.Proofs.Ytenfnbnhdmkhkaa
