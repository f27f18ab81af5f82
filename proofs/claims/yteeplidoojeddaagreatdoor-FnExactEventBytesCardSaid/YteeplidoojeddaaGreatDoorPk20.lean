/-
  Texts that a law leans on, one behind the other; no statement is proved here.
-/
import Derived.Test.YteeplidoojeddaaGreatDoorPk14
import Derived.Test.YteeplidoojeddaaGreatDoorPk18
import Derived.Test.YteeplidoojeddaaGreatDoorPk19
import Derived.Test.YteeplidoojeddaaGreatDoorPk7
import Derived.Deep.MidRow
import Derived.Test.YteeplidoojeddaaGreatDoorPk5
import Derived.Deep.Cut
/-
  EventBytes of the program.
-/
namespace Go.Proofs.YteeplidoojeddaaGreatDoor
open Go.RowKit Go.Shelf
set_option linter.unusedVariables false
set_option linter.unusedSimpArgs false

theorem SR.at {w : World} {base : Nat} {a : Option Addr} {n c : Nat} {os : List (List Int)} (h : SR w base (.slice a n c) os) : n = os.length ∧ ∀ k, k < os.length → ∃ g, a = some ⟨g, 0, none⟩ ∧ g < w.heap.size ∧ w.cell? ⟨g, k, none⟩ = some (.string (strOf (os.getD k []))) := by
  obtain ⟨a', cap', e⟩ := h.shape
  simp only [Value.slice.injEq] at e
  obtain ⟨rfl, rfl, rfl⟩ := e
  refine ⟨rfl, fun k hk => ?_⟩
  rcases h.2 with ⟨e, h0⟩ | ⟨g, cap, cur, e, hb, hg, _⟩
  · omega
  · simp only [Value.slice.injEq, true_and] at e
    obtain ⟨rfl, rfl⟩ := e
    refine ⟨g, rfl, (Array.getElem?_eq_some_iff.1 hg).1, ?_⟩
    have h1 := World.ownsRow.cells h (g := g) rfl k (.string (strOf (os.getD k []))) (by simp [strC, List.getD_eq_getElem?_getD, hk])
    have hadd : (⟨g, 0, none⟩ : Addr).add k = ⟨g, k, none⟩ := by unfold Addr.add; split <;> simp_all
    rw [hadd] at h1
    exact h1

set_option maxHeartbeats 6400000 in
set_option maxRecDepth 100000 in
theorem putDeed_any (d : Nat) (kk : Int) (ad : List Int) (jj : Int) (m : Option Nat) (a : Option Addr) (n c : Nat) (v : Vl d) (ds : List (List Int)) (w : World) (hk0 : 0 ≤ kk) (hk6 : kk ≤ 6) (hby : ∀ x ∈ ad, Byt x) (hadl : ad.length ≤ 1048576)
    (hpg : kk = 2 → PSeg (fun q => q < w.heap.size) w d (.iface 52 (.agg #[.map m])) v ∧ goodB d v 1 = true ∧ partsV d v ≤ 40 ∧ ds.length ≤ 8 ∧ (∀ k, k < ds.length → ∃ g, a = some ⟨g, 0, none⟩ ∧ g < w.heap.size ∧ w.cell? ⟨g, k, none⟩ = some (.string (strOf (ds.getD k [])))) ∧ (∀ k, k < ds.length → (∀ x ∈ ds.getD k [], Byt x) ∧ (ds.getD k []).length ≤ 1048576) ∧ n = ds.length) :
    Calls Tryz.prog 22 #[.agg #[.int .i64 kk, .string (strOf ad), .int .i64 jj, .map m, .slice a n c, .bool false, .int .i64 0]] w (PEnd w (evBy d kk ad jj v ds)) := by
  have HA : Hid (∀ o : Obj, Below w.heap.size w (w.alloc o)) := fun o => (Below.refl _ _).alloc (Nat.le_refl _) o
  have Hbox : Hid (∀ o wx, Below (w.alloc o).heap.size (w.alloc o) wx → wx.heap[w.heap.size]? = some o) := fun o wx h => box_row h
  show Calls _ _ _ _ fun e w' => PEnd w (evBy d kk ad jj v ds) e w'
  obtain rfl | rfl | rfl | rfl | rfl | rfl | rfl : kk = 0 ∨ kk = 1 ∨ kk = 2 ∨ kk = 3 ∨ kk = 4 ∨ kk = 5 ∨ kk = 6 := by omega
  ·
    clear hk0 hk6
    clear hpg
    have H1 : Hid (∀ wx, Calls Tryz.prog 40 #[.slice none 0 0, .int .i64 0] wx (PEnd wx (putNum [] 0))) := fun wx => impl_PutNum_end none 0 [] 0 wx ⟨by simp, .inl rfl⟩ (fun _ => rfl) (by simp)
    have HAd : Hid (∀ wx, Calls Tryz.prog 41 #[.int .i64 0] wx fun e w' => e = .returned (.bool false) ∧ wx = w') := fun wx => hasAddr_any 0 wx
    have ln1 := putNum_len [] 0
    simp only [List.length_nil] at ln1
    go_enter Tryz.func22, Tryz.ntmps22
    go_wp2_with fail
    refine (H1.out _).mono ?_
    rintro e w1 ⟨y1, c1, rfl, hB1, b1, k1⟩
    have hb := hide' (Below.on (HA.out _) b1)
    have hX := hide' (Hbox.out _ _ b1)
    have hY := hide' (hB1.mono (base' := w.heap.size) (by simp))
    clear b1 hB1 H1
    obtain ⟨x0, x1, x2, x3, x4, -, -⟩ := seven_row hX.out
    have HF : Hid (evBy d 0 ad jj v ds = putNum [] 0) := by show _ = _; simp [evBy]
    generalize putNum [] 0 = z1 at *
    go_wp2_with fail
    refine (HAd.out _).mono ?_
    rintro e w2 ⟨rfl, rfl⟩
    go_wp2
    go_ret
    rw [HF.out]
    exact ⟨_, _, rfl, hY.out, hb.out, k1⟩
  ·
    clear hk0 hk6
    clear hpg
    have H1 : Hid (∀ wx, Calls Tryz.prog 40 #[.slice none 0 0, .int .i64 1] wx (PEnd wx (putNum [] 1))) := fun wx => impl_PutNum_end none 0 [] 1 wx ⟨by simp, .inl rfl⟩ (fun _ => rfl) (by simp)
    have HAd : Hid (∀ wx, Calls Tryz.prog 41 #[.int .i64 1] wx fun e w' => e = .returned (.bool true) ∧ wx = w') := fun wx => hasAddr_any 1 wx
    have ln1 := putNum_len [] 1
    simp only [List.length_nil] at ln1
    go_enter Tryz.func22, Tryz.ntmps22
    go_wp2_with fail
    refine (H1.out _).mono ?_
    rintro e w1 ⟨y1, c1, rfl, hB1, b1, k1⟩
    have hb := hide' (Below.on (HA.out _) b1)
    have hX := hide' (Hbox.out _ _ b1)
    have hY := hide' (hB1.mono (base' := w.heap.size) (by simp))
    clear b1 hB1 H1
    obtain ⟨x0, x1, x2, x3, x4, -, -⟩ := seven_row hX.out
    have HF : Hid (evBy d 1 ad jj v ds = putNum (putText (putNum [] 1) ad) jj) := by show _ = _; simp [evBy]
    generalize putNum [] 1 = z1 at *
    go_wp2_with fail
    refine (HAd.out _).mono ?_
    rintro e w2 ⟨rfl, rfl⟩
    obtain ⟨ck, wB, hcv, hTo, hBb, hzB⟩ := conv_back ad hby hadl w1
    have H2 := hide' (impl_PutText_end y1 _ c1 ck z1 ad wB (hY.out.seg.grow hBb) hTo.seg.out.1 k1 hTo.seg.out.2 (by omega) (by omega))
    have ln2 := putText_len z1 ad
    replace hb := hide' (Below.on hb.out hBb)
    replace hX := hide' ((hBb.block _ (Array.getElem?_eq_some_iff.1 hX.out).1).trans hX.out)
    have hb1 := hb
    generalize hal : ad.length = al at *
    clear hTo hBb hzB hY hal HAd
    go_wp2_with fail
    refine H2.out.mono ?_
    rintro e w2 ⟨y2, c2, rfl, hB2, b2, k2⟩
    replace hb := hide' (Below.on hb.out b2)
    replace hX := hide' ((b2.block _ (Array.getElem?_eq_some_iff.1 hX.out).1).trans hX.out)
    have hY := hide' (hB2.mono (base' := w.heap.size) hb1.out.size)
    clear b2 hB2 H2 hb1 hcv x0 x1 x2 x3 x4
    obtain ⟨x0, x1, x2, x3, x4, -, -⟩ := seven_row hX.out
    generalize putText z1 ad = z2 at *
    have H3 := hide' (impl_PutNum_end y2 c2 z2 jj w2 hY.out.seg k2 (by omega))
    have HB2 := hb
    go_wp2_with fail
    refine H3.out.mono ?_
    rintro e w3 ⟨y3, c3, rfl, hB3, b3, k3⟩
    have hfe := hide' (pend_up HB2.out ⟨y3, c3, rfl, hB3, b3, k3⟩)
    clear b3 hB3 H3
    go_wp2
    go_ret
    rw [HF.out]
    exact hfe.out
  ·
    clear hk0 hk6
    obtain ⟨hps, gd, gp, hds, hcel, hbys, rfl⟩ := hpg rfl
    have HPut : Hid (∀ wx (ya : Option Addr) (yc : Nat) (zs : List Int), Below w.heap.size w wx → Seg wx ya zs → (ya = none → yc = 0) → zs.length + 60 * partsV d v ≤ 1000000 → Calls Tryz.prog 43 #[.slice ya zs.length yc, .iface 52 (.agg #[.map m])] wx (PPEnd wx (bytV d v zs))) := fun wx ya yc zs hb hs hn hl => putPart_any d w.heap.size ya yc zs _ v 1 wx (PSeg.carry (fun _ h => h) (fun q hq => hb.block q hq) d hps) hb.size hs hn gd gp hl
    have HCel : Hid (∀ k, k < ds.length → ∃ g, a = some ⟨g, 0, none⟩ ∧ g < w.heap.size ∧ w.cell? ⟨g, k, none⟩ = some (.string (strOf (ds.getD k [])))) := hcel
    have HBys : Hid (∀ k, k < ds.length → (∀ x ∈ ds.getD k [], Byt x) ∧ (ds.getD k []).length ≤ 1048576) := hbys
    clear hpg hps gd hcel hbys
    have H1 : Hid (∀ wx, Calls Tryz.prog 40 #[.slice none 0 0, .int .i64 2] wx (PEnd wx (putNum [] 2))) := fun wx => impl_PutNum_end none 0 [] 2 wx ⟨by simp, .inl rfl⟩ (fun _ => rfl) (by simp)
    have HAd : Hid (∀ wx, Calls Tryz.prog 41 #[.int .i64 2] wx fun e w' => e = .returned (.bool true) ∧ wx = w') := fun wx => hasAddr_any 2 wx
    have ln1 := putNum_len [] 2
    simp only [List.length_nil] at ln1
    go_enter Tryz.func22, Tryz.ntmps22
    go_wp2_with fail
    refine (H1.out _).mono ?_
    rintro e w1 ⟨y1, c1, rfl, hB1, b1, k1⟩
    have hb := hide' (Below.on (HA.out _) b1)
    have hX := hide' (Hbox.out _ _ b1)
    have hY := hide' (hB1.mono (base' := w.heap.size) (by simp))
    clear b1 hB1 H1
    obtain ⟨x0, x1, x2, x3, x4, -, -⟩ := seven_row hX.out
    have HF : Hid (evBy d 2 ad jj v ds = bytV d v (depB (putNum (putText (putNum [] 2) ad) ds.length) ds ds.length)) := by show _ = _; simp [evBy]
    generalize putNum [] 2 = z1 at *
    go_wp2_with fail
    refine (HAd.out _).mono ?_
    rintro e w2 ⟨rfl, rfl⟩
    obtain ⟨ck, wB, hcv, hTo, hBb, hzB⟩ := conv_back ad hby hadl w1
    have H2 := hide' (impl_PutText_end y1 _ c1 ck z1 ad wB (hY.out.seg.grow hBb) hTo.seg.out.1 k1 hTo.seg.out.2 (by omega) (by omega))
    have ln2 := putText_len z1 ad
    replace hb := hide' (Below.on hb.out hBb)
    replace hX := hide' ((hBb.block _ (Array.getElem?_eq_some_iff.1 hX.out).1).trans hX.out)
    have hb1 := hb
    generalize hal : ad.length = al at *
    clear hTo hBb hzB hY hal HAd
    go_wp2_with fail
    refine H2.out.mono ?_
    rintro e w2 ⟨y2, c2, rfl, hB2, b2, k2⟩
    replace hb := hide' (Below.on hb.out b2)
    replace hX := hide' ((b2.block _ (Array.getElem?_eq_some_iff.1 hX.out).1).trans hX.out)
    have hY := hide' (hB2.mono (base' := w.heap.size) hb1.out.size)
    clear b2 hB2 H2 hb1 hcv x0 x1 x2 x3 x4
    obtain ⟨x0, x1, x2, x3, x4, -, -⟩ := seven_row hX.out
    generalize putText z1 ad = z2 at *
    have H3 := hide' (impl_PutNum_end y2 c2 z2 ds.length w2 hY.out.seg k2 (by omega))
    have ln3 := putNum_len z2 ds.length
    have hb1 := hb
    go_wp2_with fail
    refine H3.out.mono ?_
    rintro e w3 ⟨y3, c3, rfl, hB3, b3, k3⟩
    replace hb := hide' (Below.on hb.out b3)
    replace hX := hide' ((b3.block _ (Array.getElem?_eq_some_iff.1 hX.out).1).trans hX.out)
    have HLn : Hid (∀ k, k ≤ ds.length → (depB (putNum z2 ds.length) ds k).length ≤ 1000) := fun k hk => by have := depB_len (putNum z2 ds.length) ds k; omega
    have H0 : Hid (LpS w (.cells #[.int .i64 2, .string (strOf ad), .int .i64 jj, .map m, .slice a ds.length c, .bool false, .int .i64 0] 57) (putNum z2 ds.length) ds 0 (.slice y3 (putNum z2 ds.length).length c3) w3) := ⟨y3, c3, rfl, hB3.seg, k3, hb.out, hX.out⟩
    clear b3 hB3 H3 hb1 hY x0 x1 x2 x3 x4
    obtain ⟨x0, x1, x2, x3, x4, -, -⟩ := seven_row hX.out
    generalize putNum z2 ds.length = z3 at *
    go_wp2_with fail
    go_loopw [3, 37, 5] (fun y i _ wr => ∃ k : Nat, k ≤ ds.length ∧ i = .int .i64 k ∧ Hid (LpS w (.cells #[.int .i64 2, .string (strOf ad), .int .i64 jj, .map m, .slice a ds.length c, .bool false, .int .i64 0] 57) z3 ds k y wr)) (fun _ i _ _ => ds.length - (intOf i).toNat)
    case atStart => exact ⟨0, Nat.zero_le _, rfl, H0⟩
    case round =>
      clear H0 x0 x1 x2 x3 x4 hX hb
      obtain ⟨k, hk, rfl, hS⟩ := hrel
      obtain ⟨ya, yc, rfl, hsg, kn, hbr, hXr⟩ := hS.out
      have hzl := HLn.out k hk
      obtain ⟨x0, x1, x2, x3, x4, -, -⟩ := seven_row hXr
      have hX := hide' hXr
      have hb := hide' hbr
      have hsz : w.heap.size ≤ wr.heap.size := hbr.size
      by_cases hlt : k < ds.length
      rotate_left
      · have hkn : k = ds.length := by omega
        have hlt' : ¬ (k : Int) < (ds.length : Int) := by omega
        have HF2 : Hid (evBy d 2 ad jj v ds = bytV d v (depB z3 ds k)) := by show _ = _; rw [HF.out, hkn]
        have HP := hide' (HPut.out wr ya yc (depB z3 ds k) hbr hsg kn (by omega))
        generalize depB z3 ds k = zk at *
        clear hkn hS hsg hbr hXr HF
        go_wp2_with fail
        refine HP.out.mono ?_
        rintro e w4 ⟨u, rfl, hB4, b4⟩
        obtain ⟨ua, uc, rfl, -, -, -, -, hun⟩ := hB4.shape
        have hfe : Hid (PEnd w (bytV d v zk) (.returned (.slice ua (bytV d v zk).length uc)) w4) := ⟨ua, uc, rfl, hB4.mono hsz, Below.on hb.out b4, hun⟩
        clear b4 hB4 HP
        go_wp2
        go_ret
        rw [HF2.out]
        exact hfe.out
      have hlt' : (k : Int) < (ds.length : Int) := by omega
      obtain ⟨g, rfl, hgl, hcw⟩ := HCel.out k hlt
      have hu : wr.cell? ⟨g, k, none⟩ = some (.string (strOf (ds.getD k []))) := (hbr.cell (p := ⟨g, k, none⟩) hgl).trans hcw
      obtain ⟨hdb, hdl⟩ := HBys.out k hlt
      obtain ⟨ck, wB, hcv, hTo, hBb, hzB⟩ := conv_back (ds.getD k []) hdb hdl wr
      have HN : Hid (depB z3 ds (k + 1) = putText (depB z3 ds k) (ds.getD k [])) := rfl
      have HP := hide' (impl_PutText_end ya _ yc ck (depB z3 ds k) (ds.getD k []) wB (hsg.grow hBb) hTo.seg.out.1 kn hTo.seg.out.2 (by omega) (by omega))
      replace hb := hide' (Below.on hb.out hBb)
      replace hX := hide' ((hBb.block _ (Array.getElem?_eq_some_iff.1 hX.out).1).trans hX.out)
      generalize hzk : depB z3 ds k = zk at *
      generalize hdk : ds.getD k [] = dk at *
      generalize hdkl : dk.length = dkl at *
      clear hS hsg hbr hXr hzk hdk hTo hBb hzB hcw hdkl
      go_wp2_with fail
      refine HP.out.mono ?_
      rintro e w4 ⟨ua, uc, rfl, hB4, b4, k4⟩
      have HL : Hid (LpS w (.cells #[.int .i64 2, .string (strOf ad), .int .i64 jj, .map m, .slice (some ⟨g, 0, none⟩) ds.length c, .bool false, .int .i64 0] 57) z3 ds (k + 1) (.slice ua (putText zk dk).length uc) w4) := ⟨ua, uc, by rw [HN.out], by rw [HN.out]; exact hB4.seg, k4, Below.on hb.out b4, (b4.block _ (Array.getElem?_eq_some_iff.1 hX.out).1).trans hX.out⟩
      clear b4 hB4 HP
      go_wp2
      go_roundw
      case rel => exact ⟨k + 1, by omega, by go_num, HL⟩
      case measure => simp [intOf]; omega
  ·
    clear hk0 hk6
    clear hpg
    have H1 : Hid (∀ wx, Calls Tryz.prog 40 #[.slice none 0 0, .int .i64 3] wx (PEnd wx (putNum [] 3))) := fun wx => impl_PutNum_end none 0 [] 3 wx ⟨by simp, .inl rfl⟩ (fun _ => rfl) (by simp)
    have HAd : Hid (∀ wx, Calls Tryz.prog 41 #[.int .i64 3] wx fun e w' => e = .returned (.bool true) ∧ wx = w') := fun wx => hasAddr_any 3 wx
    have ln1 := putNum_len [] 3
    simp only [List.length_nil] at ln1
    go_enter Tryz.func22, Tryz.ntmps22
    go_wp2_with fail
    refine (H1.out _).mono ?_
    rintro e w1 ⟨y1, c1, rfl, hB1, b1, k1⟩
    have hb := hide' (Below.on (HA.out _) b1)
    have hX := hide' (Hbox.out _ _ b1)
    have hY := hide' (hB1.mono (base' := w.heap.size) (by simp))
    clear b1 hB1 H1
    obtain ⟨x0, x1, x2, x3, x4, -, -⟩ := seven_row hX.out
    have HF : Hid (evBy d 3 ad jj v ds = putText (putNum [] 3) ad) := by show _ = _; simp [evBy]
    generalize putNum [] 3 = z1 at *
    go_wp2_with fail
    refine (HAd.out _).mono ?_
    rintro e w2 ⟨rfl, rfl⟩
    obtain ⟨ck, wB, hcv, hTo, hBb, hzB⟩ := conv_back ad hby hadl w1
    have H2 := hide' (impl_PutText_end y1 _ c1 ck z1 ad wB (hY.out.seg.grow hBb) hTo.seg.out.1 k1 hTo.seg.out.2 (by omega) (by omega))
    have ln2 := putText_len z1 ad
    replace hb := hide' (Below.on hb.out hBb)
    replace hX := hide' ((hBb.block _ (Array.getElem?_eq_some_iff.1 hX.out).1).trans hX.out)
    have hb1 := hb
    generalize hal : ad.length = al at *
    clear hTo hBb hzB hY hal HAd
    go_wp2_with fail
    refine H2.out.mono ?_
    rintro e w2 ⟨y2, c2, rfl, hB2, b2, k2⟩
    replace hb := hide' (Below.on hb.out b2)
    replace hX := hide' ((b2.block _ (Array.getElem?_eq_some_iff.1 hX.out).1).trans hX.out)
    have hY := hide' (hB2.mono (base' := w.heap.size) hb1.out.size)
    clear b2 hB2 H2 hb1 hcv x0 x1 x2 x3 x4
    obtain ⟨x0, x1, x2, x3, x4, -, -⟩ := seven_row hX.out
    generalize putText z1 ad = z2 at *
    go_wp2
    go_ret
    rw [HF.out]
    exact ⟨_, _, rfl, hY.out, hb.out, k2⟩
  ·
    clear hk0 hk6
    clear hpg
    have H1 : Hid (∀ wx, Calls Tryz.prog 40 #[.slice none 0 0, .int .i64 4] wx (PEnd wx (putNum [] 4))) := fun wx => impl_PutNum_end none 0 [] 4 wx ⟨by simp, .inl rfl⟩ (fun _ => rfl) (by simp)
    have HAd : Hid (∀ wx, Calls Tryz.prog 41 #[.int .i64 4] wx fun e w' => e = .returned (.bool true) ∧ wx = w') := fun wx => hasAddr_any 4 wx
    have ln1 := putNum_len [] 4
    simp only [List.length_nil] at ln1
    go_enter Tryz.func22, Tryz.ntmps22
    go_wp2_with fail
    refine (H1.out _).mono ?_
    rintro e w1 ⟨y1, c1, rfl, hB1, b1, k1⟩
    have hb := hide' (Below.on (HA.out _) b1)
    have hX := hide' (Hbox.out _ _ b1)
    have hY := hide' (hB1.mono (base' := w.heap.size) (by simp))
    clear b1 hB1 H1
    obtain ⟨x0, x1, x2, x3, x4, -, -⟩ := seven_row hX.out
    have HF : Hid (evBy d 4 ad jj v ds = putText (putNum [] 4) ad) := by show _ = _; simp [evBy]
    generalize putNum [] 4 = z1 at *
    go_wp2_with fail
    refine (HAd.out _).mono ?_
    rintro e w2 ⟨rfl, rfl⟩
    obtain ⟨ck, wB, hcv, hTo, hBb, hzB⟩ := conv_back ad hby hadl w1
    have H2 := hide' (impl_PutText_end y1 _ c1 ck z1 ad wB (hY.out.seg.grow hBb) hTo.seg.out.1 k1 hTo.seg.out.2 (by omega) (by omega))
    have ln2 := putText_len z1 ad
    replace hb := hide' (Below.on hb.out hBb)
    replace hX := hide' ((hBb.block _ (Array.getElem?_eq_some_iff.1 hX.out).1).trans hX.out)
    have hb1 := hb
    generalize hal : ad.length = al at *
    clear hTo hBb hzB hY hal HAd
    go_wp2_with fail
    refine H2.out.mono ?_
    rintro e w2 ⟨y2, c2, rfl, hB2, b2, k2⟩
    replace hb := hide' (Below.on hb.out b2)
    replace hX := hide' ((b2.block _ (Array.getElem?_eq_some_iff.1 hX.out).1).trans hX.out)
    have hY := hide' (hB2.mono (base' := w.heap.size) hb1.out.size)
    clear b2 hB2 H2 hb1 hcv x0 x1 x2 x3 x4
    obtain ⟨x0, x1, x2, x3, x4, -, -⟩ := seven_row hX.out
    generalize putText z1 ad = z2 at *
    go_wp2
    go_ret
    rw [HF.out]
    exact ⟨_, _, rfl, hY.out, hb.out, k2⟩
  ·
    clear hk0 hk6
    clear hpg
    have H1 : Hid (∀ wx, Calls Tryz.prog 40 #[.slice none 0 0, .int .i64 5] wx (PEnd wx (putNum [] 5))) := fun wx => impl_PutNum_end none 0 [] 5 wx ⟨by simp, .inl rfl⟩ (fun _ => rfl) (by simp)
    have HAd : Hid (∀ wx, Calls Tryz.prog 41 #[.int .i64 5] wx fun e w' => e = .returned (.bool false) ∧ wx = w') := fun wx => hasAddr_any 5 wx
    have ln1 := putNum_len [] 5
    simp only [List.length_nil] at ln1
    go_enter Tryz.func22, Tryz.ntmps22
    go_wp2_with fail
    refine (H1.out _).mono ?_
    rintro e w1 ⟨y1, c1, rfl, hB1, b1, k1⟩
    have hb := hide' (Below.on (HA.out _) b1)
    have hX := hide' (Hbox.out _ _ b1)
    have hY := hide' (hB1.mono (base' := w.heap.size) (by simp))
    clear b1 hB1 H1
    obtain ⟨x0, x1, x2, x3, x4, -, -⟩ := seven_row hX.out
    have HF : Hid (evBy d 5 ad jj v ds = putNum [] 5) := by show _ = _; simp [evBy]
    generalize putNum [] 5 = z1 at *
    go_wp2_with fail
    refine (HAd.out _).mono ?_
    rintro e w2 ⟨rfl, rfl⟩
    go_wp2
    go_ret
    rw [HF.out]
    exact ⟨_, _, rfl, hY.out, hb.out, k1⟩
  ·
    clear hk0 hk6
    clear hpg
    have H1 : Hid (∀ wx, Calls Tryz.prog 40 #[.slice none 0 0, .int .i64 6] wx (PEnd wx (putNum [] 6))) := fun wx => impl_PutNum_end none 0 [] 6 wx ⟨by simp, .inl rfl⟩ (fun _ => rfl) (by simp)
    have HAd : Hid (∀ wx, Calls Tryz.prog 41 #[.int .i64 6] wx fun e w' => e = .returned (.bool false) ∧ wx = w') := fun wx => hasAddr_any 6 wx
    have ln1 := putNum_len [] 6
    simp only [List.length_nil] at ln1
    go_enter Tryz.func22, Tryz.ntmps22
    go_wp2_with fail
    refine (H1.out _).mono ?_
    rintro e w1 ⟨y1, c1, rfl, hB1, b1, k1⟩
    have hb := hide' (Below.on (HA.out _) b1)
    have hX := hide' (Hbox.out _ _ b1)
    have hY := hide' (hB1.mono (base' := w.heap.size) (by simp))
    clear b1 hB1 H1
    obtain ⟨x0, x1, x2, x3, x4, -, -⟩ := seven_row hX.out
    have HF : Hid (evBy d 6 ad jj v ds = putNum [] 6) := by show _ = _; simp [evBy]
    generalize putNum [] 6 = z1 at *
    go_wp2_with fail
    refine (HAd.out _).mono ?_
    rintro e w2 ⟨rfl, rfl⟩
    go_wp2
    go_ret
    rw [HF.out]
    exact ⟨_, _, rfl, hY.out, hb.out, k1⟩

set_option maxHeartbeats 6400000 in
set_option maxRecDepth 100000 in
theorem impl_EventBytes_any (d N : Nat) (cs : List Value) (it : Rcd d) (w : World) (h : RSg (fun b => b < N) w d cs it) (hN : N ≤ w.heap.size) (hz : RSz d it) (hEr : Errs w) :
    Calls Tryz.prog 7 #[.agg cs.toArray] w (EbEnd d it w) := by
  have HA : Hid (∀ o : Obj, Below w.heap.size w (w.alloc o)) := fun o => (Below.refl _ _).alloc (Nat.le_refl _) o
  have HC : Hid (∀ wx, Below w.heap.size w wx → Calls Tryz.prog 21 #[.agg cs.toArray] wx (DeedEnd d it.2.2.2.1 it.2.2.2.2 it.1 (strOf it.2.1) it.2.2.1 (evB d it) wx)) := fun wx hb => deedOf_any d N cs it wx (h.agree (agree_below (hb.mono hN))) (by have := hb.size; omega) hz (hEr.grow hb)
  obtain ⟨na, np, bk, bn, a2, l2, p2, a3, l3, p3, a4, l4, p4, xa, xp, rfl, htx, -, hkk⟩ := h.form
  obtain ⟨kk, ad, jj, vv, ds⟩ := it
  simp only at HC htx hkk ⊢
  have hby : ∀ x ∈ ad, Byt x := by
    obtain ⟨_, _, _, hs, _⟩ := htx
    exact hs.1
  have hadl : ad.length ≤ 1048576 := hz.1
  have hbys : ∀ k, k < ds.length → (∀ x ∈ ds.getD k [], Byt x) ∧ (ds.getD k []).length ≤ 1048576 := fun k hk => by
    obtain ⟨kb, off, _, hat⟩ := hkk.full hk
    obtain ⟨_, _, _, s2, _⟩ := hat k hk
    refine ⟨s2.1, ?_⟩
    have hq := hz.2.2
    have h1 := pre_succ List.length ds k hk
    have h2 := pre_le List.length ds (k + 1)
    have e1 : ds.getD k [] = ds[k] := by simp [List.getD_eq_getElem?_getD, hk]
    rw [e1]
    simp only at hq
    unfold szK at hq
    omega
  clear hz h hEr htx hkk
  show Calls _ _ _ _ fun e w' => EbEnd d (kk, ad, jj, vv, ds) w e w'
  unfold EbEnd
  cases hev : evB d (kk, ad, jj, vv, ds) with
  | false =>
    have HF := hide' (evBytes_no hev)
    rw [hev] at HC
    clear hev hbys
    generalize ds.length = dl at *
    generalize ad.length = al at *
    go_enter Tryz.func7, Tryz.ntmps7
    go_wp2_with fail
    refine (HC.out _ (HA.out _)).mono ?_
    rintro e w1 ⟨k, s, j, m, a, n, c, f, t, rfl, b1, -⟩
    have B1 := hide' (Below.on (HA.out _) b1)
    clear b1 HC
    go_wp2
    go_ret2
    rw [HF.out]
    exact ⟨none, 0, rfl, bts_nil _ _, B1.out.alloc B1.out.size _⟩
  | true =>
    obtain ⟨hk0, hk6, hhd, hre⟩ := ev_parts hev
    have hgd := rest_map hre
    have hfw := rest_few hre
    have HT : Hid (evBytes d (kk, ad, jj, vv, ds) = evBy d kk ad jj vv ds) := by
      show _ = _
      unfold evBytes
      rw [if_pos hev]
    rw [hev] at HC
    have HD : Hid (∀ (m : Option Nat) (a : Option Addr) (n c : Nat) (wx : World), Below w.heap.size w wx → (kk = 2 → PSeg (fun q => q < wx.heap.size) wx d (.iface 52 (.agg #[.map m])) vv ∧ SR wx w.heap.size (.slice a n c) ds) → Calls Tryz.prog 22 #[.agg #[.int .i64 kk, .string (strOf ad), .int .i64 jj, .map m, .slice a n c, .bool false, .int .i64 0]] wx (PEnd wx (evBy d kk ad jj vv ds))) := fun m a n c wx hb hp => putDeed_any d kk ad jj m a n c vv ds wx hk0 hk6 hby hadl (fun e => ⟨(hp e).1, (hgd e).1, (hgd e).2, hfw e, (hp e).2.at.2, hbys, (hp e).2.at.1⟩)
    rw [HT.out]
    generalize evBy d kk ad jj vv ds = xs at *
    clear hev hhd hre hgd hfw HT hk0 hk6 hby hbys
    generalize ds.length = dl at *
    generalize ad.length = al at *
    go_enter Tryz.func7, Tryz.ntmps7
    go_wp2_with fail
    refine (HC.out _ (HA.out _)).mono ?_
    rintro e w1 ⟨k, s, j, m, a, n, c, f, t, rfl, b1, hg⟩
    obtain ⟨rfl, rfl, rfl, rfl, rfl, hp2, -⟩ := hg rfl
    have hAl := (Below.refl w1.heap.size w1).alloc (Nat.le_refl _) (.cells #[.int .i64 k, .string (strOf ad), .int .i64 j, .map m, .slice a n c, .bool false, .int .i64 0] 57)
    have B1 := hide' (Below.on (Below.on (HA.out _) b1) hAl)
    have HD1 := hide' (HD.out m a n c _ B1.out (fun e => ⟨PSeg.carry (fun q hq => by have := hq.2; simp; omega) (fun q hq => hAl.block q hq.2) d (hp2 e).1, World.ownsRow.mono (World.ownsRow.alloc (hp2 e).2 _) (by simp)⟩))
    clear b1 HC HD hAl hp2 hg
    go_wp2_with fail
    refine HD1.out.mono ?_
    rintro e w2 ⟨ra, rc, rfl, hB, b2, -⟩
    have B2 := hide' (Below.on B1.out b2)
    have HB := hide' (hB.mono (base' := w.heap.size) B1.out.size)
    clear b2 hB HD1
    go_wp2
    go_ret2
    exact ⟨_, _, rfl, HB.out, B2.out⟩
end Go.Proofs.YteeplidoojeddaaGreatDoor
/-
  szItemS: a list of records is not too great.
-/
namespace Go.Proofs.YteeplidoojeddaaGreatDoor
open Go.RowKit
set_option linter.unusedVariables false
set_option linter.unusedSimpArgs false

theorem info_laws_Event {n : Nat} (h : n = 9) : (Tryz.prog.info? 28).map (·.size) = some n := by rw [h]; kernel_rfl
theorem info_Event {n : Nat} (h : n = 9) : (Tryz.prog.info? 36).map (·.size) = some n := by rw [h]; kernel_rfl


/-- What szActS leaves. -/
def SzREnd (d : Nat) (l : List (Rcd d)) (w : World) (e : Ending) (w' : World) : Prop := (e = .returned (.int .i64 (-1)) ∨ ∃ n : Int, 0 ≤ n ∧ n ≤ 1048576 ∧ e = .returned (.int .i64 n) ∧ l.length ≤ 1048576 ∧ ∀ i (h : i < l.length), RSz d l[i]) ∧ Below w.heap.size w w'

end Go.Proofs.YteeplidoojeddaaGreatDoor
/-
  A function that copies a struct: the argument's box, the answer's, the variable's; and rows of cells by ranges.
-/
namespace Go.Proofs.YteeplidoojeddaaGreatDoor
open Go.RowKit
set_option linter.unusedVariables false
set_option linter.unusedSimpArgs false

theorem range_of_row {w : World} {g : Nat} {cs : List Value} {T : TypeId} {fr : Nat × Nat} (h : w.heap[g]? = some (.cells cs.toArray T fr)) : w.rangeAt g 0 cs := fun j v hv => by
  rw [Nat.zero_add, cell_of_row w g j _ _ _ h]
  simpa using hv
theorem there_of_row {w : World} {g : Nat} {cs : Array Value} {T : TypeId} (h : w.heap[g]? = some (.cells cs T (0, 0))) : w.there g 0 cs.size := fun j hj => by
  rw [Nat.zero_add, cell_of_row w g j _ _ _ h]
  exact ⟨by simp [hj], frozen_of_row _ _ _ _ _ h⟩
theorem results_cell {P : Program} {fn : Func} {tmps : Array Value} {w : World} {v : Value} {ad : Addr} (s : Nat) (t : TypeId) (hr : fn.results = #[.cell s t]) (hp : tmps.getD s undef = .pointer (some ad)) (hl : (loadVar t ad).run P w = .ok v w) : (results fn tmps).run P w = .ok v w := by
  unfold results
  rw [hr]
  simp only [Array.mapM_eq_mapM_toList, List.mapM_cons, List.mapM_nil, Sem.run_bind, Sem.run_pure, Result.andThen_ok, hp]
  simp [asAddr, hl]
theorem grown_setCells (g : Nat) : ∀ (vs : List Value) (o : Nat) (w : World), w.grownBy (w.setCells g o vs) (some g)
  | [], _, w => World.grownBy.refl w _
  | v :: r, o, w => grownBy_trans (grown1 w g o v) (grown_setCells g r (o + 1) (w.setCell ⟨g, o, none⟩ v))

/-- The three boxes. -/
def BxSt (w : World) (T1 T2 : TypeId) (arg zer cur : Array Value) (wx : World) : Prop :=
  Below w.heap.size w wx ∧ wx.heap[w.heap.size]? = some (.cells arg T1 (0, 0)) ∧ wx.heap[w.heap.size + 1]? = some (.cells zer T2 (0, 0)) ∧ wx.heap[w.heap.size + 1 + 1]? = some (.cells cur T2 (0, 0)) ∧ w.heap.size + 3 ≤ wx.heap.size

theorem bx_start (w : World) (T1 T2 : TypeId) (arg zer cur : Array Value) : BxSt w T1 T2 arg zer cur (((w.alloc (.cells arg T1)).alloc (.cells zer T2)).alloc (.cells cur T2)) := by
  refine ⟨(((Below.refl _ _).alloc (Nat.le_refl _) _).alloc (by simp) _).alloc (by simp; omega) _, ?_, ?_, ?_, by simp⟩
  · rw [Below.heap_alloc _ _ _ (by simp; omega), Below.heap_alloc _ _ _ (by simp)]
    exact (MapKept.heap_alloc w _).1
  · rw [Below.heap_alloc _ _ _ (by simp)]
    have := (MapKept.heap_alloc (w.alloc (.cells arg T1)) (.cells zer T2)).1
    simpa using this
  · have := (MapKept.heap_alloc ((w.alloc (.cells arg T1)).alloc (.cells zer T2)) (.cells cur T2)).1
    simpa using this
theorem bx_below {w wx w1 : World} {T1 T2 : TypeId} {arg zer cur : Array Value} (h : BxSt w T1 T2 arg zer cur wx) (b : Below wx.heap.size wx w1) : BxSt w T1 T2 arg zer cur w1 := by
  obtain ⟨h1, h2, h3, h4, h5⟩ := h
  have hz := b.size
  exact ⟨Below.on h1 b, (b.block _ (by omega)).trans h2, (b.block _ (by omega)).trans h3, (b.block _ (by omega)).trans h4, by omega⟩
theorem bx_turn {w w1 w2 : World} {T1 T2 : TypeId} {arg zer cur cur' : Array Value} (h : BxSt w T1 T2 arg zer cur w1) (hg : w1.grownBy w2 (some (w.heap.size + 1 + 1))) (hr : w2.heap[w.heap.size + 1 + 1]? = some (.cells cur' T2 (0, 0))) : BxSt w T1 T2 arg zer cur' w2 := by
  obtain ⟨h1, h2, h3, h4, h5⟩ := h
  refine ⟨h1.grown hg (by omega) (by intro k hk; simp at hk; omega), (hg.block _ (by omega) (by simp; omega)).trans h2, (hg.block _ (by omega) (by simp)).trans h3, hr, by have := hg.size; omega⟩
theorem bx_set {w w1 : World} {T1 T2 : TypeId} {arg zer cur cur' : Array Value} (h : BxSt w T1 T2 arg zer cur w1) (j : Nat) (v : Value) (hc : cur.setIfInBounds j v = cur') : BxSt w T1 T2 arg zer cur' (w1.setCell ⟨w.heap.size + 1 + 1, j, none⟩ v) := by
  subst hc
  exact bx_turn h (grown1 _ _ _ _) (heap_setCell_same _ _ _ _ _ _ h.2.2.2.1)
theorem bx_set5 {w w1 : World} {T1 T2 : TypeId} {arg zer cur cur' : Array Value} (h : BxSt w T1 T2 arg zer cur w1) (j : Nat) (c0 c1 c2 c3 c4 : Value) (hc : ((((cur.setIfInBounds j c0).setIfInBounds (j + 1) c1).setIfInBounds (j + 2) c2).setIfInBounds (j + 3) c3).setIfInBounds (j + 4) c4 = cur') : BxSt w T1 T2 arg zer cur' (set5 w1 (w.heap.size + 1 + 1) j c0 c1 c2 c3 c4) := by
  subst hc
  exact bx_turn h (set5_grown _ _ _ _ _ _ _ _) (set5_heap _ _ _ _ _ h.2.2.2.1)

/-- Behind the boxes. -/
def Beh (w wx : World) (b : Nat) : Prop := w.heap.size + 3 ≤ b ∧ b < wx.heap.size
theorem beh_below {w wx w1 : World} (b : Below wx.heap.size wx w1) : Agree (Beh w wx) wx w1 := fun k hk => b.block k hk.2
theorem beh_turn {w wx w1 : World} (hg : wx.grownBy w1 (some (w.heap.size + 1 + 1))) : Agree (Beh w wx) wx w1 := fun k hk => hg.block k hk.2 (by have := hk.1; simp; omega)
theorem beh_mono {w wx w1 : World} (h : wx.heap.size ≤ w1.heap.size) : ∀ b, Beh w wx b → Beh w w1 b := fun b hb => ⟨hb.1, Nat.lt_of_lt_of_le hb.2 h⟩
end Go.Proofs.YteeplidoojeddaaGreatDoor
/-
  toItem: a record copied.
-/
namespace Go.Proofs.YteeplidoojeddaaGreatDoor
open Go.RowKit
set_option linter.unusedVariables false
set_option linter.unusedSimpArgs false

theorem keys_small {ks : List (List Int)} (h : szK ks ≤ 1048576) : ks.length ≤ 1048576 ∧ ∀ t ∈ ks, t.length ≤ 1048576 := by
  refine ⟨by unfold szK at h; omega, fun t ht => ?_⟩
  obtain ⟨i, hi, rfl⟩ := List.getElem_of_mem ht
  have h1 := pre_succ List.length ks i hi
  have h2 := pre_le List.length ks (i + 1)
  unfold szK at h
  omega

/-- What toItem leaves. -/
def RcEnd (d : Nat) (it : Rcd d) (w : World) (e : Ending) (w' : World) : Prop := ∃ cs, e = .returned (.agg cs.toArray) ∧ RSg (fun b => w.heap.size ≤ b ∧ b < w'.heap.size) w' d cs it ∧ Below w.heap.size w w'

set_option maxHeartbeats 3200000 in
set_option maxRecDepth 100000 in
theorem toEvent_any (d N : Nat) (cs : List Value) (it : Rcd d) (w : World) (h : RSg (fun b => b < N) w d cs it) (hN : N ≤ w.heap.size) (hz : RSz d it) :
    Calls Tryz.prog 6 #[.agg cs.toArray] w (RcEnd d it w) := by
  obtain ⟨na, np, bk, bn, a2, l2, p2, a3, l3, p3, a4, l4, p4, xa, xp, rfl, ht, hv, hk⟩ := h.form
  obtain ⟨k, nm, mn, by', ks⟩ := it
  obtain ⟨z0, z1, z2⟩ := hz
  simp only at ht hv hk z0 z1 z2 ⊢
  have hA : ∀ wx, Below w.heap.size w wx → Agree (fun b => b < N) w wx := fun wx hb => agree_below (hb.mono hN)
  have HT : Hid (∀ wx, Below w.heap.size w wx → w.heap.size + 3 ≤ wx.heap.size → Calls Tryz.prog 18 #[.slice na nm.length np] wx fun e w' => ∃ g c, e = .returned (.slice (some ⟨g, 0, none⟩) nm.length c) ∧ TSeg (Beh w w') w' (.slice (some ⟨g, 0, none⟩) nm.length c) nm ∧ Below wx.heap.size wx w') := fun wx hb hs => by
    obtain ⟨_, _, e1, s1, _⟩ := ht.agree (hA wx hb)
    simp at e1
    obtain ⟨rfl, _⟩ := e1
    refine (toByteS_any _ _ nm wx s1 (by omega)).mono ?_
    rintro e w' ⟨rfl, hB, b⟩
    refine ⟨_, _, rfl, (tOwn_new hB).seg.mono fun b' hb' => ?_, b⟩
    have h1 := (tOwn_new hB).lt b' hb'
    simp at hb'
    exact ⟨by omega, h1⟩
  have HV : Hid (∀ wx, Below w.heap.size w wx → w.heap.size + 3 ≤ wx.heap.size → Calls Tryz.prog 19 #[.agg #[.int .i64 bk, .int .i64 bn, .slice a2 l2 p2, .slice a3 l3 p3, .slice a4 l4 p4]] wx fun e w' => ∃ c0 c1 c2 c3 c4, e = .returned (.agg #[c0, c1, c2, c3, c4]) ∧ VSeg (Beh w w') w' d (c0, c1, c2, c3, c4) by' ∧ Below wx.heap.size wx w') := fun wx hb hs => by
    refine (toValue_any d N (.int .i64 bk, .int .i64 bn, .slice a2 l2 p2, .slice a3 l3 p3, .slice a4 l4 p4) by' wx (VSeg.agree (hA wx hb) d hv) (by have := hb.size; omega) z1).mono ?_
    rintro e w' ⟨c0, c1, c2, c3, c4, rfl, B, hO, hB, b⟩
    exact ⟨_, _, _, _, _, rfl, VSeg.mono (fun b' hb' => by have := hB b' hb'; exact ⟨by omega, this.2⟩) d (VOwn.seg d hO), b⟩
  have HK : Hid (∀ wx, Below w.heap.size w wx → w.heap.size + 3 ≤ wx.heap.size → Calls Tryz.prog 20 #[.slice xa ks.length xp] wx fun e w' => ∃ a c, e = .returned (.slice a ks.length c) ∧ KSeg (Beh w w') w' (.slice a ks.length c) ks ∧ Below wx.heap.size wx w') := fun wx hb hs => by
    obtain ⟨q1, q2⟩ := keys_small z2
    refine (toByteSS_any N _ ks wx (hk.agree (hA wx hb)) (by have := hb.size; omega) q1 q2).mono ?_
    rintro e w' ⟨u, rfl, B, hO, hB, b⟩
    have hs := hO.seg.mono (R' := Beh w w') fun b' hb' => by have := hB b' hb'; exact ⟨by omega, this.2⟩
    have hs' := hs
    obtain ⟨a, c, rfl, _⟩ := hs
    exact ⟨a, c, rfl, hs', b⟩

  clear ht hv hk h hA
  have hst0 := hide' (bx_start w 28 36 #[.int .i64 k, .slice na nm.length np, .int .i64 mn, .int .i64 bk, .int .i64 bn, .slice a2 l2 p2, .slice a3 l3 p3, .slice a4 l4 p4, .slice xa ks.length xp] #[.int .i64 0, .slice none 0 0, .int .i64 0, .int .i64 0, .int .i64 0, .slice none 0 0, .slice none 0 0, .slice none 0 0, .slice none 0 0] #[.int .i64 k, .slice none 0 0, .int .i64 0, .int .i64 0, .int .i64 0, .slice none 0 0, .slice none 0 0, .slice none 0 0, .slice none 0 0])
  have HNm : Hid (RcEnd d (k, nm, mn, by', ks) w = RcEnd d (k, nm, mn, by', ks) w) := rfl
  generalize hn0 : nm.length = s0 at *
  generalize hn1 : ks.length = kl at *
  have Hn0 := hide' hn0
  have Hn1 := hide' hn1
  clear hn0 hn1 z0 z1 z2
  go_enter Tryz.func6, Tryz.ntmps6
  go_wp2_with fail
  refine (HT.out _ hst0.out.1 hst0.out.2.2.2.2).mono ?_
  rintro e w1 ⟨g1, c1, rfl, hT1, b1⟩
  have hq := bx_below hst0.out b1
  have hs1 := bx_set hq 1 (.slice (some ⟨g1, 0, none⟩) s0 c1) rfl
  have hs1' := hide' (bx_set hs1 2 (.int .i64 mn) rfl)
  have hg1 := grownBy_trans (grown1 w1 (w.heap.size + 1 + 1) 1 (.slice (some ⟨g1, 0, none⟩) s0 c1)) (grown1 _ (w.heap.size + 1 + 1) 2 (.int .i64 mn))
  have HT1 := hide' ((hT1.agree (beh_turn hg1)).mono (beh_mono hg1.size))
  have u2 := cell_of_row _ _ 2 _ _ _ hq.2.1
  have u3 := cell_of_row _ _ 3 _ _ _ hq.2.1
  have u4 := cell_of_row _ _ 4 _ _ _ hq.2.1
  have u5 := cell_of_row _ _ 5 _ _ _ hq.2.1
  have u6 := cell_of_row _ _ 6 _ _ _ hq.2.1
  have u7 := cell_of_row _ _ 7 _ _ _ hq.2.1
  have t1 := cell_of_row _ _ 1 _ _ _ hq.2.2.2.1
  have t2 := cell_of_row _ _ 2 _ _ _ hq.2.2.2.1
  have f1 := frozen_of_row _ _ 1 _ _ hq.2.2.2.1
  have f2 := frozen_of_row _ _ 2 _ _ hq.2.2.2.1
  simp at u2 u3 u4 u5 u6 u7 t1 t2 hs1'
  clear hT1 b1 hq hs1 hg1 hst0 HT
  go_wp2_with fail
  refine (HV.out _ hs1'.out.1 hs1'.out.2.2.2.2).mono ?_
  rintro e w2 ⟨v0, v1, v2, v3, v4, rfl, hV2, b2⟩
  obtain ⟨vk, vn, e2, m2, q2, e3, m3, q3, e4, m4, q4, rfl, rfl, rfl, rfl, rfl⟩ := VSeg.form d hV2
  have hq := bx_below hs1'.out b2
  have hs2 := hide' (bx_set5 hq 3 (.int .i64 vk) (.int .i64 vn) (.slice e2 m2 q2) (.slice e3 m3 q3) (.slice e4 m4 q4) rfl)
  have hg2 := set5_grown w2 (w.heap.size + 1 + 1) 3 (.int .i64 vk) (.int .i64 vn) (.slice e2 m2 q2) (.slice e3 m3 q3) (.slice e4 m4 q4)
  have HT2 := hide' ((((HT1.out.agree (beh_below b2)).mono (beh_mono b2.size)).agree (beh_turn hg2)).mono (beh_mono hg2.size))
  have HV2 := hide' (VSeg.mono (beh_mono hg2.size) d (VSeg.agree (beh_turn hg2) d hV2))
  have x8 := cell_of_row _ _ 8 _ _ _ hq.2.1
  have r3 := cell_of_row _ _ 3 _ _ _ hq.2.2.2.1
  have r4 := cell_of_row _ _ 4 _ _ _ hq.2.2.2.1
  have r5 := cell_of_row _ _ 5 _ _ _ hq.2.2.2.1
  have r6 := cell_of_row _ _ 6 _ _ _ hq.2.2.2.1
  have r7 := cell_of_row _ _ 7 _ _ _ hq.2.2.2.1
  have k3 := frozen_of_row _ _ 3 _ _ hq.2.2.2.1
  have k4 := frozen_of_row _ _ 4 _ _ hq.2.2.2.1
  have k5 := frozen_of_row _ _ 5 _ _ hq.2.2.2.1
  have k6 := frozen_of_row _ _ 6 _ _ hq.2.2.2.1
  have k7 := frozen_of_row _ _ 7 _ _ hq.2.2.2.1
  simp at x8 r3 r4 r5 r6 r7 hs2
  clear hV2 b2 hq hg2 hs1' HV HT1 u2 u3 u4 u5 u6 u7 t1 t2 f1 f2
  go_wp2_with fail
  refine (HK.out _ hs2.out.1 hs2.out.2.2.2.2).mono ?_
  rintro e w3 ⟨ka, kc, rfl, hK3, b3⟩
  have hq := bx_below hs2.out b3
  have HQ3 := hide' hq
  have hs3 := hide' (bx_set hq 8 (.slice ka kl kc) rfl)
  have hg3 := grown1 w3 (w.heap.size + 1 + 1) 8 (.slice ka kl kc)
  have HT3 := hide' ((((HT2.out.agree (beh_below b3)).mono (beh_mono b3.size)).agree (beh_turn hg3)).mono (beh_mono hg3.size))
  have HV3 := hide' (VSeg.mono (beh_mono hg3.size) d (VSeg.agree (beh_turn hg3) d (VSeg.mono (beh_mono b3.size) d (VSeg.agree (beh_below b3) d HV2.out))))
  have HK3 := hide' ((hK3.agree (beh_turn hg3)).mono (beh_mono hg3.size))
  clear hK3 b3 hq hg3 HK HT2 HV2 x8 r3 r4 r5 r6 r7 k3 k4 k5 k6 k7
  have r8 := cell_of_row _ _ 8 _ _ _ HQ3.out.2.2.2.1
  have k8 := frozen_of_row _ _ 8 _ _ HQ3.out.2.2.2.1
  simp at r8 hs3
  go_upto_region 7 with fail
  generalize w3.setCell ⟨w.heap.size + 1 + 1, 8, none⟩ (.slice ka kl kc) = wA at *
  clear r8 k8 HQ3
  have hr := range_of_row (cs := [.int .i64 k, .slice (some ⟨g1, 0, none⟩) s0 c1, .int .i64 mn, .int .i64 vk, .int .i64 vn, .slice e2 m2 q2, .slice e3 m3 q3, .slice e4 m4 q4, .slice ka kl kc]) hs3.out.2.2.2.1
  have hth : wA.there (w.heap.size + 1) 0 9 := there_of_row hs3.out.2.2.1
  have hone : ∀ v ∈ [Value.int .i64 k, .slice (some ⟨g1, 0, none⟩) s0 c1, .int .i64 mn, .int .i64 vk, .int .i64 vn, .slice e2 m2 q2, .slice e3 m3 q3, .slice e4 m4 q4, .slice ka kl kc], v.oneCell' = true := by
    intro v hv
    simp only [List.mem_cons, List.not_mem_nil, or_false] at hv
    rcases hv with rfl | rfl | rfl | rfl | rfl | rfl | rfl | rfl | rfl <;> rfl
  have hld := run_loadVar_mid (P := Tryz.prog) _ _ _ 36 _ _ (World.rangeAt_setCells_same wA (w.heap.size + 1) 0 [.int .i64 k, .slice (some ⟨g1, 0, none⟩) s0 c1, .int .i64 mn, .int .i64 vk, .int .i64 vn, .slice e2 m2 q2, .slice e3 m3 q3, .slice e4 m4 q4, .slice ka kl kc] hth) Tryz.underlying36 rfl (by kernel_rfl)
  have hg := grown_setCells (w.heap.size + 1) [.int .i64 k, .slice (some ⟨g1, 0, none⟩) s0 c1, .int .i64 mn, .int .i64 vk, .int .i64 vn, .slice e2 m2 q2, .slice e3 m3 q3, .slice e4 m4 q4, .slice ka kl kc] 0 wA
  go_wp2_with (first | (refine wpList_load_mid rfl 36 (.tmp 3) (by rfl) (w.heap.size + 1 + 1) 0 (by rfl) _ _ hr Tryz.underlying36 rfl (by kernel_rfl) ?_) | (refine wpList_store_mid rfl 36 (.tmp 2) (.tmp 22) (by rfl) (w.heap.size + 1) 0 #[.int .i64 k, .slice (some ⟨g1, 0, none⟩) s0 c1, .int .i64 mn, .int .i64 vk, .int .i64 vn, .slice e2 m2 q2, .slice e3 m3 q3, .slice e4 m4 q4, .slice ka kl kc] (by rfl) (by rfl) hth (by kernel_rfl) (all_oneCell_toArray hone) ?_))
  refine bodyPost_ret (v := .agg #[.int .i64 k, .slice (some ⟨g1, 0, none⟩) s0 c1, .int .i64 mn, .int .i64 vk, .int .i64 vn, .slice e2 m2 q2, .slice e3 m3 q3, .slice e4 m4 q4, .slice ka kl kc]) (results_cell 2 36 Tryz.results6 (by rfl) hld) rfl ?_
  have hAg : Agree (Beh w wA) wA _ := fun b hb => hg.block b hb.2 (by have := hb.1; simp; omega)
  have hMo : ∀ b, Beh w wA b → (w.heap.size ≤ b ∧ b < (wA.setCells (w.heap.size + 1) 0 [.int .i64 k, .slice (some ⟨g1, 0, none⟩) s0 c1, .int .i64 mn, .int .i64 vk, .int .i64 vn, .slice e2 m2 q2, .slice e3 m3 q3, .slice e4 m4 q4, .slice ka kl kc]).heap.size) := fun b hb => ⟨by have := hb.1; omega, Nat.lt_of_lt_of_le hb.2 hg.size⟩
  exact ⟨_, rfl, ⟨_, _, _, _, _, _, _, rfl, (HT3.out.agree hAg).mono hMo, VSeg.mono hMo d (VSeg.agree hAg d HV3.out), (HK3.out.agree hAg).mono hMo⟩, hs3.out.1.grown hg (by have := hs3.out.2.2.2.2; omega) (by intro j hj; simp at hj; omega)⟩

end Go.Proofs.YteeplidoojeddaaGreatDoor
