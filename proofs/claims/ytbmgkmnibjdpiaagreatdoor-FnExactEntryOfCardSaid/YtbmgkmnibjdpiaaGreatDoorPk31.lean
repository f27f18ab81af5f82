/-
  Texts that a law leans on, one behind the other; no statement is proved here.
-/
import Derived.Test.YtbmgkmnibjdpiaaGreatDoorPk25
import Derived.Test.YtbmgkmnibjdpiaaGreatDoorPk8
import Derived.Test.YtbmgkmnibjdpiaaGreatDoorPk30
import Derived.Test.YtbmgkmnibjdpiaaGreatDoorPk29
import Derived.Test.YtbmgkmnibjdpiaaGreatDoorPk6
import Derived.Deep.RegionHeld3
/-
  markEntry, heldEntry: all that an entry of the call's own holds is marked, nothing else is turned, and it is found so.
-/
namespace Go.Proofs.YtbmgkmnibjdpiaaGreatDoor
open Go.RowKit
set_option linter.unusedVariables false
set_option linter.unusedSimpArgs false

/-- An entry, marked from 1 on. -/
def mkN (d : Nat) (it : Ntr (d + 1)) : Ntr (d + 1) := (marks 1 it.1.length, mkV d it.2.1 (1 + it.1.length), mkKs it.2.2.1 (1 + it.1.length + cV d it.2.1), it.2.2.2.1, it.2.2.2.2)
def cntN (d : Nat) (it : Ntr (d + 1)) : Nat := 1 + it.1.length + cV d it.2.1 + (it.2.2.1.map List.length).sum

set_option maxHeartbeats 3200000 in
set_option maxRecDepth 100000 in
theorem markEntry_any (d : Nat) (cs : List Value) (it : Ntr (d + 1)) (B : List Nat) (w : World) (h : NtOwnD w (d + 1) cs it B) (hz : NtSz (d + 1) it) :
    Calls Tryz.prog 17 #[.agg cs.toArray, .int .i64 1] w fun e w' => e = .returned (.int .i64 (cntN d it : Int)) ∧ NtOwnD w' (d + 1) cs (mkN d it) B ∧ Turned B w w' := by
  have hlt := h.lt
  obtain ⟨c1, c3, c4, c5, c6, c7, c8, B1, B2, B3, rfl, h1, h2, h3, rfl, n12, n13, n23⟩ := h
  obtain ⟨nm, by', ks, tn, tu⟩ := it
  obtain ⟨z0, z1, z2⟩ := hz
  simp only at h1 h2 h3 z0 z1 z2 ⊢
  have hcv := cV_le d by'
  have hsk : (ks.map List.length).sum ≤ 1048576 := by have h5 : szK ks = ks.length + (ks.map List.length).sum := rfl; omega
  have HFin : Hid (∀ wx, TOwn wx c1 (marks 1 nm.length) B1 → VOwn wx (d + 1) (c3, c4, c5, c6, c7) (mkV d by' (1 + nm.length)) B2 → KOwn wx c8 (mkKs ks (1 + nm.length + cV d by')) B3 → NtOwnD wx (d + 1) [c1, c3, c4, c5, c6, c7, c8, .bool tn, .int .i64 tu] (mkN d (nm, by', ks, tn, tu)) (B1 ++ (B2 ++ B3))) := fun wx g1 g2 g3 => ⟨c1, c3, c4, c5, c6, c7, c8, B1, B2, B3, rfl, g1, g2, g3, rfl, n12, n13, n23⟩
  obtain ⟨m1, hm1⟩ : ∃ m : Nat, m = 1 + nm.length := ⟨_, rfl⟩
  obtain ⟨m2, hm2⟩ : ∃ m : Nat, m = m1 + cV d by' := ⟨_, rfl⟩
  obtain ⟨m3, hm3⟩ : ∃ m : Nat, m = m2 + (ks.map List.length).sum := ⟨_, rfl⟩
  have hcn : cntN d (nm, by', ks, tn, tu) = m3 := by rw [hm3, hm2, hm1]; rfl
  rw [hcn]
  rw [← hm1, ← hm2] at HFin
  have l1 : ∀ b ∈ B1, b < w.heap.size := fun b hb => hlt b (by simp [hb])
  have l2 : ∀ b ∈ B2, b < w.heap.size := fun b hb => hlt b (by simp [hb])
  have l3 : ∀ b ∈ B3, b < w.heap.size := fun b hb => hlt b (by simp [hb])
  have H1 : Hid (∀ o : Obj, Calls Tryz.prog 16 #[c1, .int .i64 1] (w.alloc o) fun e w' => e = .returned (.int .i64 (m1 : Int)) ∧ TOwn w' c1 (marks 1 nm.length) B1 ∧ Turned B1 (w.alloc o) w') := fun o => by
    have h1' : TOwn (w.alloc o) c1 nm B1 := h1.agree fun b hb => Below.heap_alloc w o b (l1 b hb)
    obtain ⟨a, c, rfl, _⟩ := h1.seg
    refine (markByteS_F a c nm 1 (w.alloc o) h1'.1 (by omega) (by omega)).mono ?_
    rintro e w' ⟨rfl, hb, hg⟩
    refine ⟨by rw [hm1], ⟨?_, ?_⟩, h1'.turned hg⟩
    · exact hb
    · have e1 : (marks 1 nm.length).length = nm.length := by simp [marks]
      rw [e1]
      exact h1'.2
  have H2 : Hid (∀ (o : Obj) wx, TOwn wx c1 (marks 1 nm.length) B1 → Turned B1 (w.alloc o) wx → Calls Tryz.prog 34 #[.agg #[c3, c4, c5, c6, c7], .int .i64 (m1 : Int)] wx fun e w' => e = .returned (.int .i64 (m2 : Int)) ∧ (TOwn w' c1 (marks 1 nm.length) B1 ∧ VOwn w' (d + 1) (c3, c4, c5, c6, c7) (mkV d by' m1) B2) ∧ Turned (B1 ++ B2) (w.alloc o) w') := fun o wx g1 hT => by
    have h2' : VOwn wx (d + 1) (c3, c4, c5, c6, c7) by' B2 := VOwn.agree (d + 1) h2 (own_at hT l2 fun b hb hb' => n12 b hb' hb)
    refine (markValue_any d c3 c4 c5 c6 c7 by' B2 m1 wx h2' z1 (by omega)).mono ?_
    rintro e w' ⟨rfl, g2, hg⟩
    exact ⟨by rw [hm2], ⟨g1.agree fun b hb => hg.block b (g1.lt b hb) (n12 b hb), g2⟩, (hT.mono fun b hb => by simp [hb]).trans (hg.mono fun b hb => by simp [hb])⟩
  have H3 : Hid (∀ (o : Obj) wx, TOwn wx c1 (marks 1 nm.length) B1 ∧ VOwn wx (d + 1) (c3, c4, c5, c6, c7) (mkV d by' m1) B2 → Turned (B1 ++ B2) (w.alloc o) wx → Calls Tryz.prog 35 #[c8, .int .i64 (m2 : Int)] wx fun e w' => e = .returned (.int .i64 (m3 : Int)) ∧ NtOwnD w' (d + 1) [c1, c3, c4, c5, c6, c7, c8, .bool tn, .int .i64 tu] (mkN d (nm, by', ks, tn, tu)) (B1 ++ (B2 ++ B3)) ∧ Turned (B1 ++ (B2 ++ B3)) (w.alloc o) w') := fun o wx g12 hT => by
    have h3' : KOwn wx c8 ks B3 := h3.agree (own_at hT l3 fun b hb hb' => by
      rcases List.mem_append.1 hb' with hb' | hb'
      · exact n13 b hb' hb
      · exact n23 b hb' hb)
    refine (markByteSS_any c8 ks B3 m2 wx h3' (by omega) (by omega)).mono ?_
    rintro e w' ⟨rfl, g3, hg⟩
    exact ⟨by rw [hm3], HFin.out w' (g12.1.agree fun b hb => hg.block b (g12.1.lt b hb) (n13 b hb)) (VOwn.agree (d + 1) g12.2 fun b hb => hg.block b (VOwn.lt (d + 1) g12.2 b hb) (n23 b hb)) g3, (hT.mono fun b hb => by simp at hb ⊢; rcases hb with hb | hb <;> simp [hb]).trans (hg.mono fun b hb => by simp [hb])⟩
  have Hrow : Hid (∀ (o : Obj) wx C, Turned C (w.alloc o) wx → (∀ b ∈ C, b ∈ B1 ++ (B2 ++ B3)) → wx.heap[w.heap.size]? = some o) := fun o wx C hT hC => (hT.block w.heap.size (by simp) (fun hb => by have := hlt _ (hC _ hb); omega)).trans (MapKept.heap_alloc w o).1
  have HEnd : Hid (∀ (o : Obj) wx, Turned (B1 ++ (B2 ++ B3)) (w.alloc o) wx → Turned (B1 ++ (B2 ++ B3)) w wx) := fun o wx hT => (Turned.of_grown (World.grownBy_alloc w o none) (by simp)).trans hT
  have S1 : Hid (∀ b ∈ B1, b ∈ B1 ++ (B2 ++ B3)) := fun b hb => by simp [hb]
  have S2 : Hid (∀ b ∈ B1 ++ B2, b ∈ B1 ++ (B2 ++ B3)) := fun b hb => by simp at hb ⊢; rcases hb with hb | hb <;> simp [hb]
  obtain ⟨a1, p1, rfl, -⟩ := h1.seg
  obtain ⟨bk, bn, a2, l2', p2, a3, l3', p3, a4, l4', p4, rfl, rfl, rfl, rfl, rfl⟩ := VOwn.form (d + 1) h2
  obtain ⟨xa, xp, rfl, -⟩ := h3.seg
  have hb1 : m1 ≤ 1125899906842624 := by omega
  have hb2 : m2 ≤ 1125899906842624 := by omega
  have hb3 : m3 ≤ 1125899906842624 := by omega
  clear h1 h2 h3 hlt z0 z1 z2 hcv hsk hm1 hm2 hm3 hcn l1 l2 l3 n12 n13 n23 HFin
  generalize mkN d (nm, by', ks, tn, tu) = res at *
  generalize marks 1 nm.length = mk1 at *
  generalize mkV d by' m1 = mk2 at *
  generalize nm.length = n1 at *
  generalize ks.length = n2 at *
  generalize B1 ++ (B2 ++ B3) = B at *
  generalize B1 ++ B2 = B12 at *
  go_enter Tryz.func17, Tryz.ntmps17
  go_wp2_with fail
  refine (H1.out _).mono ?_
  rintro e w1 ⟨rfl, g1, T1⟩
  have hrow := Hrow.out _ _ _ T1 S1.out
  have y1 := cell_of_row _ _ 1 _ _ _ hrow
  have y2 := cell_of_row _ _ 2 _ _ _ hrow
  have y3 := cell_of_row _ _ 3 _ _ _ hrow
  have y4 := cell_of_row _ _ 4 _ _ _ hrow
  have y5 := cell_of_row _ _ 5 _ _ _ hrow
  simp at y1 y2 y3 y4 y5
  have HC := hide' (H2.out _ _ g1 T1)
  clear hrow T1 H1 H2 g1
  go_wp2_with fail
  refine HC.out.mono ?_
  rintro e w2 ⟨rfl, g12, T2⟩
  have y6 := cell_of_row _ _ 6 _ _ _ (Hrow.out _ _ _ T2 S2.out)
  simp at y6
  have HC2 := hide' (H3.out _ _ g12 T2)
  clear T2 H3 HC y1 y2 y3 y4 y5 g12
  go_wp2_with fail
  refine HC2.out.mono ?_
  rintro e w3 ⟨rfl, g3, T3⟩
  have HE := hide' (HEnd.out _ _ T3)
  have HG := hide' g3
  clear T3 HC2 y6 g3
  go_wp2
  go_ret
  exact ⟨rfl, HG.out, HE.out⟩

set_option maxHeartbeats 3200000 in
set_option maxRecDepth 100000 in
theorem heldEntry_any (d N : Nat) (cs : List Value) (it : Ntr (d + 1)) (w : World) (h : NtSg (fun b => b < N) w (d + 1) cs (mkN d it)) (hN : N ≤ w.heap.size) (hz : NtSz (d + 1) it) :
    Calls Tryz.prog 18 #[.agg cs.toArray, .int .i64 1] w fun e w' => e = .returned (.int .i64 (cntN d it : Int)) ∧ Below w.heap.size w w' := by
  obtain ⟨nm, by', ks, tn, tu⟩ := it
  obtain ⟨z0, z1, z2⟩ := hz
  simp only at z0 z1 z2
  have hcv := cV_le d by'
  have hsk : (ks.map List.length).sum ≤ 1048576 := by have h5 : szK ks = ks.length + (ks.map List.length).sum := rfl; omega
  obtain ⟨na, np, bk, bn, a2, l2, p2, a3, l3, p3, a4, l4, p4, xa, xp, rfl, ht, hv, hk⟩ := h.form
  clear h
  obtain ⟨it', hit⟩ : ∃ it', it' = mkN d (nm, by', ks, tn, tu) := ⟨_, rfl⟩
  rw [← hit] at ht hv hk ⊢
  obtain ⟨j1, j2, j3, j4, j5⟩ := it'
  have hit' : (j1, j2, j3, j4, j5) = (marks 1 nm.length, mkV d by' (1 + nm.length), mkKs ks (1 + nm.length + cV d by'), tn, tu) := hit
  simp only [Prod.mk.injEq] at hit'
  obtain ⟨rfl, rfl, rfl, rfl, rfl⟩ := hit'
  clear hit
  simp only at ht hv hk ⊢
  have el1 : (marks 1 nm.length).length = nm.length := by simp [marks]
  rw [el1] at ht ⊢
  obtain ⟨m1, hm1⟩ : ∃ m : Nat, m = 1 + nm.length := ⟨_, rfl⟩
  obtain ⟨m2, hm2⟩ : ∃ m : Nat, m = m1 + cV d by' := ⟨_, rfl⟩
  obtain ⟨m3, hm3⟩ : ∃ m : Nat, m = m2 + (ks.map List.length).sum := ⟨_, rfl⟩
  have hcn : cntN d (nm, by', ks, j4, j5) = m3 := by rw [hm3, hm2, hm1]; rfl
  rw [hcn]
  rw [← hm1] at hv hk ⊢
  rw [← hm2] at hk ⊢
  have HA : Hid (∀ o : Obj, Below w.heap.size w (w.alloc o)) := fun o => (Below.refl _ _).alloc (Nat.le_refl _) o
  have Hbox : Hid (∀ o wx, Below (w.alloc o).heap.size (w.alloc o) wx → wx.heap[w.heap.size]? = some o) := fun o wx h => box_row h
  have hA : ∀ wx, Below w.heap.size w wx → Agree (fun b => b < N) w wx := fun wx hb => agree_below (hb.mono hN)
  have H1 : Hid (∀ wx, Below w.heap.size w wx → Calls Tryz.prog 36 #[.slice na nm.length np, .int .i64 1] wx fun e w' => e = .returned (.int .i64 (m1 : Int)) ∧ Below wx.heap.size wx w') := fun wx hb => by
    obtain ⟨a', c', e, hs, _⟩ := ht.agree (hA wx hb)
    rw [el1] at e
    simp only [Value.slice.injEq, true_and] at e
    obtain ⟨rfl, rfl⟩ := e
    have := heldByteS_any na np 1 nm.length wx hs (by omega) (by omega)
    rw [← hm1] at this
    exact this
  have H2 : Hid (∀ wx, Below w.heap.size w wx → Calls Tryz.prog 37 #[.agg #[.int .i64 bk, .int .i64 bn, .slice a2 l2 p2, .slice a3 l3 p3, .slice a4 l4 p4], .int .i64 (m1 : Int)] wx fun e w' => e = .returned (.int .i64 (m2 : Int)) ∧ Below wx.heap.size wx w') := fun wx hb => by
    have := heldValue_any d N _ _ _ _ _ by' m1 wx (VSeg.agree (hA wx hb) (d + 1) hv) (by have := hb.size; omega) z1 (by omega)
    rw [← hm2] at this
    exact this
  have H3 : Hid (∀ wx, Below w.heap.size w wx → Calls Tryz.prog 38 #[.slice xa (mkKs ks m2).length xp, .int .i64 (m2 : Int)] wx fun e w' => e = .returned (.int .i64 (m3 : Int)) ∧ Below wx.heap.size wx w') := fun wx hb => by
    have := heldByteSS_any N _ ks m2 wx (hk.agree (hA wx hb)) (by have := hb.size; omega) (by omega) (by omega)
    rw [← hm3] at this
    exact this
  clear ht hv hk hA el1 hcn z0 z1 z2 hcv hsk hm1 hm2 hm3
  generalize nm.length = n1 at *
  generalize (mkKs ks m2).length = n2 at *
  have g1 : ¬ (m1 : Int) < 0 := by omega
  have g2 : ¬ (m2 : Int) < 0 := by omega
  have g3 : ¬ (m3 : Int) < 0 := by omega
  go_enter Tryz.func18, Tryz.ntmps18
  go_wp2_with fail
  refine (H1.out _ (HA.out _)).mono ?_
  rintro e w1 ⟨rfl, b1⟩
  have hrow := Hbox.out _ _ b1
  have y1 := cell_of_row _ _ 1 _ _ _ hrow
  have y2 := cell_of_row _ _ 2 _ _ _ hrow
  have y3 := cell_of_row _ _ 3 _ _ _ hrow
  have y4 := cell_of_row _ _ 4 _ _ _ hrow
  have y5 := cell_of_row _ _ 5 _ _ _ hrow
  simp at y1 y2 y3 y4 y5
  have B1 := hide' b1
  clear b1 hrow
  go_wp2_with fail
  refine (H2.out _ (Below.on (HA.out _) B1.out)).mono ?_
  rintro e w2 ⟨rfl, b2⟩
  have B2 := hide' (Below.on B1.out b2)
  have y6 := cell_of_row _ _ 6 _ _ _ (Hbox.out _ _ B2.out)
  simp at y6
  clear b2 y1 y2 y3 y4 y5
  go_wp2_with fail
  refine (H3.out _ (Below.on (HA.out _) B2.out)).mono ?_
  rintro e w3 ⟨rfl, b3⟩
  have B3 := hide' (Below.on (HA.out _) (Below.on B2.out b3))
  clear b3 y6
  go_wp2
  go_ret
  exact ⟨rfl, B3.out⟩
end Go.Proofs.YtbmgkmnibjdpiaaGreatDoor
/-
  FnExactEntryOf answers true, whatever state and address it is handed; it makes new memory and turns nothing old.
-/
namespace Go.Proofs.YtbmgkmnibjdpiaaGreatDoor
open Go.RowKit Go.Shelf
set_option linter.unusedVariables false
set_option linter.unusedSimpArgs false

theorem SttE.parts {d : Nat} (s : Stt d) : ∃ (s0 : Int) (s1 : Bool) (pl : Nat) (s3 : Int) (ll : Nat), s.1 = s0 ∧ s.2.1 = s1 ∧ s.2.2.1.length = pl ∧ s.2.2.2.1 = s3 ∧ s.2.2.2.2.length = ll := ⟨_, _, _, _, _, rfl, rfl, rfl, rfl, rfl⟩
theorem NtOwnD.form {w : World} {d : Nat} {cs : List Value} {it : Ntr d} {B : List Nat} {tn : Bool} {tu : Int} (h : NtOwnD w d cs it B) (e1 : it.2.2.2.1 = tn) (e2 : it.2.2.2.2 = tu) : ∃ (xa : Option Addr) (xl xp : Nat) (bk bn : Int) (b2 : Option Addr) (m2 p2 : Nat) (b3 : Option Addr) (m3 p3 : Nat) (b4 : Option Addr) (m4 p4 : Nat) (da : Option Addr) (dl dp : Nat), cs = [.slice xa xl xp, .int .i64 bk, .int .i64 bn, .slice b2 m2 p2, .slice b3 m3 p3, .slice b4 m4 p4, .slice da dl dp, .bool tn, .int .i64 tu] := by
  obtain ⟨na, np, bk, bn, a2, l2, p2, a3, l3, p3, a4, l4, p4, xa, xp, rfl, -, -, -⟩ := h.read.form
  rw [e1, e2]
  exact ⟨_, _, _, _, _, _, _, _, _, _, _, _, _, _, _, _, _, rfl⟩
theorem entR_sz {D : Nat} {s : Stt (D + 1)} {x : List Int} (hz : SaSz (D + 1) s) : NtSz (D + 1) (entR D s x) := by
  have h0 : NtSz (D + 1) (ntNil D) := ⟨by simp [ntNil], by show szV (D + 1) (vNil D) ≤ 1048576; rw [sz_vNil]; omega, by simp [ntNil, szK]⟩
  unfold entR
  split
  · next h =>
    obtain ⟨k, hk, hf, _⟩ := findK_in h.2
    rw [adrL_len] at hk
    rw [hf]
    have : s.2.2.2.2.getD (k : Int).toNat (ntNil D) = s.2.2.2.2[k] := by simp [List.getD_eq_getElem?_getD, hk]
    rw [this]
    exact hz.2.2 k hk
  · exact h0

set_option maxHeartbeats 12800000 in
set_option maxRecDepth 100000 in
theorem walk_FnExactEntryOf (D : Nat) (cs : List Value) (st : Stt (D + 1)) (key : List Int) (ka : Option Addr) (kc : Nat) (w : World) (hE : Errs w) (hx : SaSg (fun b => b < w.heap.size) w (D + 1) cs st) (hS : Seg w ka key) (hkc : key.length ≤ kc) (hkc2 : kc ≤ maxLen) (hkn : ka = none → kc = 0) :
    Calls Tryz.prog 4 #[.agg cs.toArray, .slice ka key.length kc] w fun e w' => e = .returned (.bool true) ∧ Below w.heap.size w w' := by
  have b0 : ∀ o : Obj, Below w.heap.size w (w.alloc o) := fun o => (Below.refl _ _).alloc (Nat.le_refl _) o
  have Hb := hide' b0
  have hkm : key.length ≤ 9223372036854775807 := by unfold maxLen at hkc2; omega
  have HEr := hide' hE
  have HV : Hid (∀ wx, Below w.heap.size w wx → SaSg (fun b => b < w.heap.size) wx (D + 1) cs st) := fun wx hb => hx.agree (agree_below hb)
  have HS : Hid (∀ wx, Below w.heap.size w wx → Calls Tryz.prog 5 #[.agg cs.toArray, .int .i64 1048576] wx (SzSaE (D + 1) st wx)) := fun wx hb => szState_any (D + 1) w.heap.size cs st wx (HV.out wx hb) hb.size
  have Hbox : Hid (∀ o wx, Below (w.alloc o).heap.size (w.alloc o) wx → wx.heap[w.heap.size]? = some o) := fun o wx h => box_row h
  have HKS : Hid (∀ wx, Below w.heap.size w wx → Seg wx ka key) := fun wx hb => hS.below hb hS.lt
  obtain ⟨s0, s1, pl, s3, ll, e0, e1, e2, e3, e4⟩ := SttE.parts st
  have HP : Hid (∀ (R : Nat → Prop) (wx : World) (cs' : List Value), SaSg R wx (D + 1) cs' st → ∃ (pa : Option Addr) (pc : Nat) (ea : Option Addr) (ec : Nat), cs' = [.int .i64 s0, .bool s1, .slice pa pl pc, .int .i64 s3, .slice ea ll ec]) := fun R wx cs' h => by
    obtain ⟨pa, pc, ea, ec, rfl, -, -⟩ := h.form
    subst e0 e1 e2 e3 e4
    exact ⟨_, _, _, _, rfl⟩
  obtain ⟨tn, htn⟩ : ∃ tn, (entR D st key).2.2.2.1 = tn := ⟨_, rfl⟩
  obtain ⟨tu, htu⟩ : ∃ tu, (entR D st key).2.2.2.2 = tu := ⟨_, rfl⟩
  have HPe : Hid (∀ (wx : World) (cs' : List Value) (B : List Nat), NtOwnD wx (D + 1) cs' (entR D st key) B → ∃ (xa : Option Addr) (xl xp : Nat) (bk bn : Int) (b2 : Option Addr) (m2 p2 : Nat) (b3 : Option Addr) (m3 p3 : Nat) (b4 : Option Addr) (m4 p4 : Nat) (da : Option Addr) (dl dp : Nat), cs' = [.slice xa xl xp, .int .i64 bk, .int .i64 bn, .slice b2 m2 p2, .slice b3 m3 p3, .slice b4 m4 p4, .slice da dl dp, .bool tn, .int .i64 tu]) := fun wx cs' B h => h.form htn htu
  obtain ⟨pa, pc, ea, ec, rfl⟩ := HP.out _ _ _ hx
  clear hx hE e0 e1 e2 e3 e4 htn htu hS b0
  by_cases hbig : 1048576 < key.length
  · have hbig' : (1048576 : Int) < (key.length : Int) := by omega
    generalize key.length = kn at *
    clear HPe HP HKS HS HV
    go_enter Tryz.func4, Tryz.ntmps4
    go_wp2
    go_ret
    exact ⟨rfl, Hb.out _⟩
  have hkl : key.length ≤ 1048576 := by omega
  have hkl' : ¬ (1048576 : Int) < (key.length : Int) := by omega
  have HTB : Hid (∀ wx, Below w.heap.size w wx → Calls Tryz.prog 11 #[.slice ka key.length kc] wx fun e w' => e = .returned (.slice (some ⟨wx.heap.size, 0, none⟩) key.length key.length) ∧ Bts w' wx.heap.size (.slice (some ⟨wx.heap.size, 0, none⟩) key.length key.length) key ∧ Below wx.heap.size wx w') := fun wx hb => toByteS_any ka kc key wx (HKS.out wx hb) (by omega)
  have HT0 : Hid (SaSz (D + 1) st → ∀ wx, Below w.heap.size w wx → Calls Tryz.prog 7 #[.agg #[.int .i64 s0, .bool s1, .slice pa pl pc, .int .i64 s3, .slice ea ll ec]] wx (SaEndO (D + 1) st wx)) := fun hz wx hb => toStateO_any (D + 1) w.heap.size _ st wx (HV.out wx hb) hb.size hz
  have HEB : Hid (∀ (xa ya : Option Addr) (xc yc : Nat) (wx : World), Seg wx xa key → Seg wx ya key → Calls Tryz.prog 14 #[.slice xa key.length xc, .slice ya key.length yc] wx fun e w' => e = .returned (.bool true) ∧ Below wx.heap.size wx w') := fun xa ya xc yc wx h h' => eqByteS_same xa ya xc yc key wx h h' (by omega)
  have HMC : Hid (∀ base xa (q : Nat) wx, q ≤ 1125899906842624 → Bts wx base (.slice xa key.length key.length) key → Calls Tryz.prog 16 #[.slice xa key.length key.length, .int .i64 q] wx fun e w' => e = .returned (.int .i64 ((q + key.length : Nat) : Int)) ∧ wx.grownBy w' (Value.slice xa key.length key.length).ownBlock) := fun base xa q wx hq h => (markByteS_any base xa key.length key q wx h (by omega) hq).mono fun e w' h => ⟨h.1, h.2.2⟩
  have HTg : Hid (∀ (wx : World) (base : Nat) (xa : Option Addr), Bts wx base (.slice xa key.length key.length) key → TSeg (fun b => b < wx.heap.size) wx (.slice xa key.length key.length) key) := fun wx base xa h => by
    obtain ⟨a', c', e, h1, h2, h3, h4⟩ := h.shape
    simp only [Value.slice.injEq, true_and] at e
    obtain ⟨rfl, rfl⟩ := e
    exact ⟨_, _, rfl, h1, h2, h3, h4.2, fun x hx _ => (h4.1 x hx).2.1⟩
  have HSp0 : Hid (SaSz (D + 1) st → ∀ cs' wx xa, SaSg (fun b => b < wx.heap.size) wx (D + 1) cs' st → TSeg (fun b => b < wx.heap.size) wx (.slice xa key.length key.length) key → Calls Tryz.prog 10 #[.agg cs'.toArray, .slice xa key.length key.length] wx (AnsN D (entR D st key) (entG D st key) wx)) := fun hz cs' wx xa h1 h2 => spec_EntryOf_any D wx.heap.size cs' st xa key.length key wx h1 (Nat.le_refl _) hz h2 hkl
  have HIm0 : Hid (SaSz (D + 1) st → ∀ cs' wx xa, Below w.heap.size w wx → SaSg (fun b => b < wx.heap.size) wx (D + 1) cs' st → TSeg (fun b => b < wx.heap.size) wx (.slice xa key.length key.length) key → Calls Tryz.prog 12 #[.agg cs'.toArray, .slice xa key.length key.length] wx (AnsN D (entR D st key) (entG D st key) wx)) := fun hz cs' wx xa hb h1 h2 => impl_EntryOf_any D wx.heap.size cs' st xa key.length key wx h1 (Nat.le_refl _) hz h2 hkl (HEr.out.grow hb)
  have HSz0 : Hid (SaSz (D + 1) st → NtSz (D + 1) (entR D st key)) := fun hz => entR_sz hz
  have HEA0 : Hid (NtSz (D + 1) (entR D st key) → ∀ (cs1 cs2 : List Value) (B B' : List Nat) (wx : World), NtOwnD wx (D + 1) cs1 (entR D st key) B → NtOwnD wx (D + 1) cs2 (entR D st key) B' → Calls Tryz.prog 13 #[.agg cs1.toArray, .agg cs2.toArray] wx fun e w' => e = .returned (.bool true) ∧ Below wx.heap.size wx w') := fun hz cs1 cs2 B B' wx h h' => eqEntry_any (D + 1) wx.heap.size cs1 cs2 _ wx h.read h'.read (Nat.le_refl _) hz
  have HMA0 : Hid (NtSz (D + 1) (entR D st key) → ∀ (cs1 : List Value) (B : List Nat) (wx : World), NtOwnD wx (D + 1) cs1 (entR D st key) B → Calls Tryz.prog 17 #[.agg cs1.toArray, .int .i64 1] wx fun e w' => e = .returned (.int .i64 (cntN D (entR D st key) : Int)) ∧ NtOwnD w' (D + 1) cs1 (mkN D (entR D st key)) B ∧ Turned B wx w') := fun hz cs1 B wx h => markEntry_any D cs1 _ B wx h hz
  have HHA0 : Hid (NtSz (D + 1) (entR D st key) → ∀ (cs1 : List Value) (B : List Nat) (wx : World), NtOwnD wx (D + 1) cs1 (mkN D (entR D st key)) B → Calls Tryz.prog 18 #[.agg cs1.toArray, .int .i64 1] wx fun e w' => e = .returned (.int .i64 (cntN D (entR D st key) : Int)) ∧ Below wx.heap.size wx w') := fun hz cs1 B wx h => heldEntry_any D wx.heap.size cs1 _ wx h.read (Nat.le_refl _) hz
  generalize entR D st key = a at *
  generalize mkN D a = ma at *
  generalize cntN D a = q2 at *
  generalize entG D st key = bb at *
  generalize hkn' : key.length = kn at *
  clear hkn' HKS HV hbig
  have hq2' : 0 ≤ (q2 : Int) := by omega
  have hbb : (bb != bb) = false := by simp
  go_enter Tryz.func4, Tryz.ntmps4
  go_wp2_with fail
  refine (HS.out _ (Hb.out _)).mono ?_
  rintro e w1 ⟨hcase, b1⟩
  have Hb1 := hide' b1
  clear HS b1
  rcases hcase with rfl | ⟨m, hm0, hm1, rfl, hsz⟩
  · have HBF := hide' (Below.on (Hb.out _) Hb1.out)
    go_wp2
    go_ret
    exact ⟨rfl, HBF.out⟩
  have hm' : ¬ m < 0 := by omega
  have HT := hide' (HT0.out hsz)
  have HSp := hide' (HSp0.out hsz)
  have HIm := hide' (HIm0.out hsz)
  have hza := HSz0.out hsz
  have HEA := hide' (HEA0.out hza)
  have HMA := hide' (HMA0.out hza)
  have HHA := hide' (HHA0.out hza)
  have HM : Hid (∀ cs1 B wx, SaOwn wx (D + 1) cs1 st B → Calls Tryz.prog 15 #[.agg cs1.toArray, .int .i64 1] wx fun e w' => (∃ n : Nat, e = .returned (.int .i64 (n : Int)) ∧ n ≤ 1125899906842624) ∧ Turned B wx w') := fun cs1 B wx h => markState_any D cs1 st B wx h hsz
  have HEq : Hid (∀ cs1 cs2 wx, SaSg (fun b => b < wx.heap.size) wx (D + 1) cs1 st → SaSg (fun b => b < wx.heap.size) wx (D + 1) cs2 st → Calls Tryz.prog 9 #[.agg cs1.toArray, .agg cs2.toArray] wx fun e w' => e = .returned (.bool true) ∧ Below wx.heap.size wx w') := fun cs1 cs2 wx h h' => eqState_any (D + 1) wx.heap.size cs1 cs2 st wx h h' (Nat.le_refl _) hsz
  clear HT0 HSp0 HIm0 HSz0 HEA0 HMA0 HHA0 hza hsz
  obtain ⟨y0, y1, y2, y3, y4⟩ := five_row (Hbox.out _ _ Hb1.out)
  have HT1 := hide' (HT.out w1 (Below.on (Hb.out _) Hb1.out))
  go_wp2_with fail
  refine HT1.out.mono ?_
  rintro e w2a ⟨cu, rfl, Bu, hO2, hB2, b2⟩
  have b12a := hide' (Below.on Hb1.out b2)
  have HTBa := hide' (HTB.out w2a (Below.on (Hb.out _) b12a.out))
  have HO2 := hide' hO2
  obtain ⟨pa1, pc1, ea1, ec1, rfl⟩ := HP.out _ _ _ hO2.read
  clear HT1 Hb1 hO2 hB2 b2 y0 y1 y2 y3 y4
  go_wp2_with fail
  refine HTBa.out.mono ?_
  rintro e w2 ⟨rfl, hK2, bk2⟩
  have hS2 := hide' (HSp.out _ w2 _ (HO2.out.on bk2).read (HTg.out _ _ _ hK2))
  have b12 := hide' (Below.on b12a.out bk2)
  clear HTBa HO2 b12a hK2 bk2 HSp
  go_wp2_with fail
  refine hS2.out.mono ?_
  rintro e w3 ⟨cw, rfl, Bw, hW3, hBw, b3⟩
  have hBw' := hW3.lt
  obtain ⟨xaW, xlW, xpW, bkW, bnW, b2W, m2W, p2W, b3W, m3W, p3W, b4W, m4W, p4W, daW, dlW, dpW, rfl⟩ := HPe.out _ _ _ hW3
  have balW : Below w3.heap.size w3 (w3.alloc (.cells #[.slice xaW xlW xpW, .int .i64 bkW, .int .i64 bnW, .slice b2W m2W p2W, .slice b3W m3W p3W, .slice b4W m4W p4W, .slice daW dlW dpW, .bool tn, .int .i64 tu] 39)) := (Below.refl _ _).alloc (Nat.le_refl _) _
  have b13 := Below.on (Below.on b12.out b3) balW
  obtain ⟨y0, y1, y2, y3, y4⟩ := five_row (Hbox.out _ _ b13)
  have HT3 := hide' (HT.out _ (Below.on (Hb.out _) b13))
  have HZ3 : Hid (w.heap.size + 1 ≤ w2.heap.size) := hide' (by have h := b12.out.size; simpa using h)
  have HW3 := hide' (hW3.on balW)
  have HrW : Hid ((w3.alloc (.cells #[.slice xaW xlW xpW, .int .i64 bkW, .int .i64 bnW, .slice b2W m2W p2W, .slice b3W m3W p3W, .slice b4W m4W p4W, .slice daW dlW dpW, .bool tn, .int .i64 tu] 39)).heap[w3.heap.size]? = some (.cells #[.slice xaW xlW xpW, .int .i64 bkW, .int .i64 bnW, .slice b2W m2W p2W, .slice b3W m3W p3W, .slice b4W m4W p4W, .slice daW dlW dpW, .bool tn, .int .i64 tu] 39)) := (MapKept.heap_alloc w3 _).1
  have HBw : Hid (∀ b ∈ Bw, w2.heap.size ≤ b ∧ b < w3.heap.size) := fun b hb => ⟨hBw b hb, hBw' b hb⟩
  have Hb13 := hide' b13
  have hz23 : w2.heap.size ≤ w3.heap.size := b3.size
  clear b12 b3 b13 hS2 hW3 hBw hBw' balW
  go_wp2_with fail
  refine HT3.out.mono ?_
  rintro e w4 ⟨cx, rfl, B4, hO4, hB4, b4⟩
  obtain ⟨pa', pc', ea', ec', rfl⟩ := HP.out _ _ _ hO4.read
  have bal : Below w4.heap.size w4 (w4.alloc (.cells #[.int .i64 s0, .bool s1, .slice pa' pl pc', .int .i64 s3, .slice ea' ll ec'] 30)) := (Below.refl _ _).alloc (Nat.le_refl _) _
  have HO4 := hide' (hO4.on bal)
  have HB4 : Hid (∀ b ∈ B4, w3.heap.size + 1 ≤ b ∧ b < w4.heap.size) := fun b hb => by have := hB4 b hb; simp at this; exact this
  have Hb14 := hide' (Below.on (Below.on Hb13.out b4) bal)
  have HW4 := hide' ((HW3.out.on b4).on bal)
  have HrW4 := hide' (row_on (row_on HrW.out b4) bal)
  have HrX : Hid ((w4.alloc (.cells #[.int .i64 s0, .bool s1, .slice pa' pl pc', .int .i64 s3, .slice ea' ll ec'] 30)).heap[w4.heap.size]? = some (.cells #[.int .i64 s0, .bool s1, .slice pa' pl pc', .int .i64 s3, .slice ea' ll ec'] 30)) := (MapKept.heap_alloc w4 _).1
  have hz34 : w3.heap.size + 1 ≤ w4.heap.size := by have := b4.size; simpa using this
  have HTB4 := hide' (HTB.out _ (Below.on (Hb.out _) Hb14.out))
  clear hO4 hB4 b4 bal HT3 Hb13 HW3 HrW y0 y1 y2 y3 y4
  go_wp2_with fail
  refine HTB4.out.mono ?_
  rintro e w5 ⟨rfl, hK5, b5⟩
  simp only [World.size_alloc] at hK5
  have hx5 := row_on HrX.out b5
  obtain ⟨v0, v1, v2, v3, v4⟩ := five_row hx5
  have hI5 := hide' (HIm.out _ w5 _ (Below.on (Hb.out _) (Below.on Hb14.out b5)) (HO4.out.on b5).read (HTg.out _ _ _ hK5))
  have HK5 := hide' hK5
  have HO5 := hide' (HO4.out.on b5)
  have HW5 := hide' (HW4.out.on b5)
  have HrW5 := hide' (row_on HrW4.out b5)
  have HrX5 := hide' hx5
  have Hb15 := hide' (Below.on Hb14.out b5)
  have hz45 : w4.heap.size + 2 ≤ w5.heap.size := by have h := (hK5.lt _ rfl).2; simp only at h; omega
  clear hK5 b5 hx5 HTB4 HO4 HW4 HrW4 HrX Hb14
  go_wp2_with fail
  refine hI5.out.mono ?_
  rintro e w6 ⟨cg, rfl, Bg, hG6, hBg, b6⟩
  have hBg' := hG6.lt
  obtain ⟨xaG, xlG, xpG, bkG, bnG, b2G, m2G, p2G, b3G, m3G, p3G, b4G, m4G, p4G, daG, dlG, dpG, rfl⟩ := HPe.out _ _ _ hG6
  have balG : Below w6.heap.size w6 (w6.alloc (.cells #[.slice xaG xlG xpG, .int .i64 bkG, .int .i64 bnG, .slice b2G m2G p2G, .slice b3G m3G p3G, .slice b4G m4G p4G, .slice daG dlG dpG, .bool tn, .int .i64 tu] 39)) := (Below.refl _ _).alloc (Nat.le_refl _) _
  have b56 := Below.on b6 balG
  have hE6 := hide' (HEA.out _ _ _ _ _ (hG6.on balG) (HW5.out.on b56))
  have HG6 := hide' (hG6.on balG)
  have HW6 := hide' (HW5.out.on b56)
  have HO6 := hide' (HO5.out.on b56)
  have HK6 := hide' (HK5.out.grow b56)
  have HrW6 := hide' (row_on HrW5.out b56)
  have HrX6 := hide' (row_on HrX5.out b56)
  have HrG6 : Hid ((w6.alloc (.cells #[.slice xaG xlG xpG, .int .i64 bkG, .int .i64 bnG, .slice b2G m2G p2G, .slice b3G m3G p3G, .slice b4G m4G p4G, .slice daG dlG dpG, .bool tn, .int .i64 tu] 39)).heap[w6.heap.size]? = some (.cells #[.slice xaG xlG xpG, .int .i64 bkG, .int .i64 bnG, .slice b2G m2G p2G, .slice b3G m3G p3G, .slice b4G m4G p4G, .slice daG dlG dpG, .bool tn, .int .i64 tu] 39)) := (MapKept.heap_alloc w6 _).1
  have Hb16 := hide' (Below.on Hb15.out b56)
  have HBg : Hid (∀ b ∈ Bg, w5.heap.size ≤ b ∧ b < w6.heap.size) := fun b hb => ⟨hBg b hb, hBg' b hb⟩
  have hz56 : w5.heap.size ≤ w6.heap.size := b6.size
  obtain ⟨i0, i1, i2, i3, i4, i5, i6, i7, i8⟩ := ev_row HrW6.out
  obtain ⟨jj0, jj1, jj2, jj3, jj4, jj5, jj6, jj7, jj8⟩ := ev_row HrG6.out
  clear hI5 hG6 hBg hBg' b6 balG b56 HW5 HO5 HK5 HrW5 HrX5 Hb15 v0 v1 v2 v3 v4
  go_wp2_with fail
  refine hE6.out.mono ?_
  rintro e w7 ⟨rfl, b7⟩
  have B17 := Below.on Hb16.out b7
  have hx7 := row_on HrX6.out b7
  have hz7 : w4.heap.size < w7.heap.size := (Array.getElem?_eq_some_iff.1 hx7).1
  obtain ⟨y0, y1, y2, y3, y4⟩ := five_row (Hbox.out _ _ B17)
  obtain ⟨v0, v1, v2, v3, v4⟩ := five_row hx7
  have hO7 := HO6.out.on b7
  have HCel : Hid (∀ wy, Below w7.heap.size w7 wy → (wy.cell? ⟨w.heap.size, 0, none⟩ = some (.int .i64 s0) ∧ wy.cell? ⟨w.heap.size, 1, none⟩ = some (.bool s1) ∧ wy.cell? ⟨w.heap.size, 2, none⟩ = some (.slice pa pl pc) ∧ wy.cell? ⟨w.heap.size, 3, none⟩ = some (.int .i64 s3) ∧ wy.cell? ⟨w.heap.size, 4, none⟩ = some (.slice ea ll ec) ∧ wy.cell? ⟨w4.heap.size, 0, none⟩ = some (.int .i64 s0) ∧ wy.cell? ⟨w4.heap.size, 1, none⟩ = some (.bool s1) ∧ wy.cell? ⟨w4.heap.size, 2, none⟩ = some (.slice pa' pl pc') ∧ wy.cell? ⟨w4.heap.size, 3, none⟩ = some (.int .i64 s3) ∧ wy.cell? ⟨w4.heap.size, 4, none⟩ = some (.slice ea' ll ec'))) := by
    intro wy hy
    obtain ⟨f0, f1, f2, f3, f4⟩ := five_row (Hbox.out _ _ (Below.on B17 hy))
    obtain ⟨g0, g1, g2, g3, g4⟩ := five_row (row_on hx7 hy)
    exact ⟨f0, f1, f2, f3, f4, g0, g1, g2, g3, g4⟩
  have HTd : Hid (Calls Tryz.prog 7 #[.agg #[.int .i64 s0, .bool s1, .slice pa pl pc, .int .i64 s3, .slice ea ll ec]] w7.drew fun e w8 => ∃ z0 z1 z2 z3 z4, e = .returned (.agg #[z0, z1, z2, z3, z4]) ∧ (w8.cell? ⟨w.heap.size, 0, none⟩ = some (.int .i64 s0) ∧ w8.cell? ⟨w.heap.size, 1, none⟩ = some (.bool s1) ∧ w8.cell? ⟨w.heap.size, 2, none⟩ = some (.slice pa pl pc) ∧ w8.cell? ⟨w.heap.size, 3, none⟩ = some (.int .i64 s3) ∧ w8.cell? ⟨w.heap.size, 4, none⟩ = some (.slice ea ll ec) ∧ w8.cell? ⟨w4.heap.size, 0, none⟩ = some (.int .i64 s0) ∧ w8.cell? ⟨w4.heap.size, 1, none⟩ = some (.bool s1) ∧ w8.cell? ⟨w4.heap.size, 2, none⟩ = some (.slice pa' pl pc') ∧ w8.cell? ⟨w4.heap.size, 3, none⟩ = some (.int .i64 s3) ∧ w8.cell? ⟨w4.heap.size, 4, none⟩ = some (.slice ea' ll ec')) ∧
      Hid (Calls Tryz.prog 9 #[.agg #[.int .i64 s0, .bool s1, .slice pa' pl pc', .int .i64 s3, .slice ea' ll ec'], .agg #[z0, z1, z2, z3, z4]] w8 fun e w9 => e = .returned (.bool true) ∧ (w9.cell? ⟨w.heap.size, 0, none⟩ = some (.int .i64 s0) ∧ w9.cell? ⟨w.heap.size, 1, none⟩ = some (.bool s1) ∧ w9.cell? ⟨w.heap.size, 2, none⟩ = some (.slice pa pl pc) ∧ w9.cell? ⟨w.heap.size, 3, none⟩ = some (.int .i64 s3) ∧ w9.cell? ⟨w.heap.size, 4, none⟩ = some (.slice ea ll ec) ∧ w9.cell? ⟨w4.heap.size, 0, none⟩ = some (.int .i64 s0) ∧ w9.cell? ⟨w4.heap.size, 1, none⟩ = some (.bool s1) ∧ w9.cell? ⟨w4.heap.size, 2, none⟩ = some (.slice pa' pl pc') ∧ w9.cell? ⟨w4.heap.size, 3, none⟩ = some (.int .i64 s3) ∧ w9.cell? ⟨w4.heap.size, 4, none⟩ = some (.slice ea' ll ec')) ∧ Hid (Below w7.heap.size w7 w9))) := by
    refine (HT.out w7.drew (Below.on (Hb.out _) B17).drew).mono ?_
    rintro e w8 ⟨cz, rfl, B8, hO8, hB8, b8⟩
    obtain ⟨paz, pcz, eaz, ecz, rfl⟩ := HP.out _ _ _ hO8.read
    have b78 : Below w7.heap.size w7 w8 := Below.on (Below.refl _ w7).drew b8
    refine ⟨_, _, _, _, _, rfl, HCel.out _ b78, ?_⟩
    exact (HEq.out [.int .i64 s0, .bool s1, .slice pa' pl pc', .int .i64 s3, .slice ea' ll ec'] [.int .i64 s0, .bool s1, .slice paz pl pcz, .int .i64 s3, .slice eaz ll ecz] w8 (hO7.on b78).read hO8.read).mono fun e w9 h => ⟨h.1, HCel.out _ (Below.on b78 h.2), Below.on b78 h.2⟩
  have HB17 := hide' B17
  have HO7 := hide' hO7
  have HG7 := hide' (HG6.out.on b7)
  have HW7 := hide' (HW6.out.on b7)
  have HK7 := hide' (HK6.out.grow b7)
  have HrW7 := hide' (row_on HrW6.out b7)
  have HrX7 := hide' hx7
  have HrG7 := hide' (row_on HrG6.out b7)
  clear hE6 hx7 hO7 b7 B17 HO6 Hb16 HG6 HW6 HK6 HrW6 HrX6 HrG6 i0 i1 i2 i3 i4 i5 i6 i7 i8 jj0 jj1 jj2 jj3 jj4 jj5 jj6 jj7 jj8
  go_wp2_with fail
  go_region_held3 (fun wx => (wx.cell? ⟨w.heap.size, 0, none⟩ = some (.int .i64 s0) ∧ wx.cell? ⟨w.heap.size, 1, none⟩ = some (.bool s1) ∧ wx.cell? ⟨w.heap.size, 2, none⟩ = some (.slice pa pl pc) ∧ wx.cell? ⟨w.heap.size, 3, none⟩ = some (.int .i64 s3) ∧ wx.cell? ⟨w.heap.size, 4, none⟩ = some (.slice ea ll ec) ∧ wx.cell? ⟨w4.heap.size, 0, none⟩ = some (.int .i64 s0) ∧ wx.cell? ⟨w4.heap.size, 1, none⟩ = some (.bool s1) ∧ wx.cell? ⟨w4.heap.size, 2, none⟩ = some (.slice pa' pl pc') ∧ wx.cell? ⟨w4.heap.size, 3, none⟩ = some (.int .i64 s3) ∧ wx.cell? ⟨w4.heap.size, 4, none⟩ = some (.slice ea' ll ec'))) (go_keep) (first
    | (go_at_call 7; refine HTd.out.mono ?_; rintro e w8 ⟨z0, z1, z2, z3, z4, rfl, ⟨i0, i1, i2, i3, i4, i5, i6, i7, i8, i9⟩, hE8⟩)
    | (go_at_call 9; refine hE8.out.mono ?_; rintro e w9 ⟨rfl, ⟨j0, j1, j2, j3, j4, j5, j6, j7, j8, j9⟩, hb9⟩))
  clear y0 y1 y2 y3 y4 v0 v1 v2 v3 v4 i0 i1 i2 i3 i4 i5 i6 i7 i8 i9 hE8 HTd HCel HEq j0 j1 j2 j3 j4 j5 j6 j7 j8 j9
  have HB19 := hide' (Below.on HB17.out hb9.out)
  have HG9 := hide' (HG7.out.on hb9.out)
  have HW9 := hide' (HW7.out.on hb9.out)
  have HO9 := hide' (HO7.out.on hb9.out)
  have HK9 := hide' (HK7.out.grow hb9.out)
  have HrW9 := hide' (row_on HrW7.out hb9.out)
  have HrX9 := hide' (row_on HrX7.out hb9.out)
  have HrG9 := hide' (row_on HrG7.out hb9.out)
  have HTB9 := hide' (HTB.out w9 (Below.on (Hb.out _) HB19.out))
  clear HG7 HW7 HO7 HK7 HrW7 HrX7 HrG7 HB17 hb9
  go_wp2_with fail
  refine HTB9.out.mono ?_
  rintro e w10 ⟨rfl, hK10, b10⟩
  have hE10 := HEB.out _ (some ⟨w9.heap.size, 0, none⟩) kn kn w10 (HK9.out.grow b10).seg (hK10.seg)
  replace hE10 := hide' hE10
  have HB110 := hide' (Below.on HB19.out b10)
  have Hb910 := hide' b10
  clear HTB9 hK10 b10 HB19
  go_wp2_with fail
  refine hE10.out.mono ?_
  rintro e w11 ⟨rfl, b11⟩
  have b911 := Below.on Hb910.out b11
  have hx11 := row_on HrX9.out b911
  obtain ⟨v0, v1, v2, v3, v4⟩ := five_row hx11
  have hM11 := hide' (HM.out _ _ _ (HO9.out.on b911))
  have HG11 := hide' (HG9.out.on b911)
  have HW11 := hide' (HW9.out.on b911)
  have HK11 := hide' (HK9.out.grow b911)
  have HrW11 := hide' (row_on HrW9.out b911)
  have HrG11 := hide' (row_on HrG9.out b911)
  have HB111 := hide' (Below.on HB110.out b11)
  clear hE10 b11 b911 hx11 Hb910 HB110 HG9 HW9 HO9 HK9 HrW9 HrX9 HrG9
  go_wp2_with fail
  refine hM11.out.mono ?_
  rintro e w12 ⟨⟨q1, rfl, hq1⟩, hT12⟩
  have HG12 := hide' (HG11.out.far hT12 (fun b hb hm => by have h1 := HBg.out b hb; have h2 := HB4.out b hm; omega))
  have HW12 := hide' (HW11.out.far hT12 (fun b hb hm => by have h1 := HBw.out b hb; have h2 := HB4.out b hm; omega))
  have HrW12 := hide' (row_far HrW11.out hT12 (fun hm => by have h2 := HB4.out _ hm; omega))
  have HrG12 := hide' (row_far HrG11.out hT12 (fun hm => by have h2 := HB4.out _ hm; omega))
  have hK12 := HK11.out.far hT12 (by intro k hk hm; have h2 := HB4.out _ hm; simp [Value.ownBlock] at hk; omega)
  have HB112 := hide' (Turned.below HB111.out hT12 (Nat.le_refl _) (fun b hb => by have h1 := HB4.out b hb; have h2 := HZ3.out; rw [World.size_alloc]; omega))
  have hM12 := hide' (HMC.out _ _ q1 _ hq1 hK12)
  clear hM11 hT12 HG11 HW11 HK11 HrW11 HrG11 HB111 hK12 v0 v1 v2 v3 v4
  go_wp2_with fail
  refine hM12.out.mono ?_
  rintro e w13 ⟨rfl, g13⟩
  have hq3' : ¬ ((q1 + kn : Nat) : Int) < 0 := by omega
  generalize q1 + kn = q3 at *
  have hT13 : Turned [w4.heap.size + 1] w12 w13 := Turned.of_grown g13 (fun g hg => by simp [Value.ownBlock] at hg; simp [hg])
  have hG13 := HG12.out.far hT13 (fun b hb hm => by have h1 := HBg.out b hb; simp at hm; omega)
  have hW13 := HW12.out.far hT13 (fun b hb hm => by have h1 := HBw.out b hb; simp at hm; omega)
  have hrW13 := row_far HrW12.out hT13 (fun hm => by simp at hm; omega)
  have hrG13 := row_far HrG12.out hT13 (fun hm => by simp at hm; omega)
  have HB113 := hide' (Turned.below HB112.out hT13 (Nat.le_refl _) (fun b hb => by have h2 := HZ3.out; simp at hb; rw [World.size_alloc]; omega))
  obtain ⟨i0, i1, i2, i3, i4, i5, i6, i7, i8⟩ := ev_row hrW13
  obtain ⟨j0, j1, j2, j3, j4, j5, j6, j7, j8⟩ := ev_row hrG13
  have hE13 := hide' (HEA.out _ _ _ _ _ hG13 hW13)
  have HG13 := hide' hG13
  have HW13 := hide' hW13
  have HrW13 := hide' hrW13
  have HrG13 := hide' hrG13
  clear hM12 g13 hT13 HG12 HW12 HrW12 HrG12 HB112 hG13 hW13 hrW13 hrG13
  go_wp2_with fail
  refine hE13.out.mono ?_
  rintro e w14 ⟨rfl, b14⟩
  have hrG14 := row_on HrG13.out b14
  obtain ⟨k0, k1, k2, k3, k4, k5, k6, k7, k8⟩ := ev_row hrG14
  have hM14 := hide' (HMA.out _ _ _ (HG13.out.on b14))
  have HW14 := hide' (HW13.out.on b14)
  have HrW14 := hide' (row_on HrW13.out b14)
  have HrG14 := hide' hrG14
  have HB114 := hide' (Below.on HB113.out b14)
  clear hE13 b14 hrG14 HG13 HW13 HrW13 HrG13 HB113 i0 i1 i2 i3 i4 i5 i6 i7 i8 j0 j1 j2 j3 j4 j5 j6 j7 j8
  go_wp2_with fail
  refine hM14.out.mono ?_
  rintro e w15 ⟨rfl, hG15, hT15⟩
  have hrG15 := row_far HrG14.out hT15 (fun hm => by have h2 := HBg.out _ hm; omega)
  have HW15 := hide' (HW14.out.far hT15 (fun b hb hm => by have h1 := HBw.out b hb; have h2 := HBg.out b hm; omega))
  have HrW15 := hide' (row_far HrW14.out hT15 (fun hm => by have h2 := HBg.out _ hm; omega))
  have HB115 := hide' (Turned.below HB114.out hT15 (Nat.le_refl _) (fun b hb => by have h1 := HBg.out b hb; have h2 := HZ3.out; rw [World.size_alloc]; omega))
  obtain ⟨j0, j1, j2, j3, j4, j5, j6, j7, j8⟩ := ev_row hrG15
  have hH15 := hide' (HHA.out _ _ _ hG15)
  have HG15 := hide' hG15
  have HrG15 := hide' hrG15
  clear hM14 hT15 hG15 hrG15 HW14 HrW14 HrG14 HB114 k0 k1 k2 k3 k4 k5 k6 k7 k8
  go_wp2_with fail
  refine hH15.out.mono ?_
  rintro e w16 ⟨rfl, b16⟩
  have HG16 := hide' (HG15.out.on b16)
  have HW16 := hide' (HW15.out.on b16)
  have HrW16 := hide' (row_on HrW15.out b16)
  have HrG16 := hide' (row_on HrG15.out b16)
  have HB116 := hide' (Below.on HB115.out b16)
  obtain ⟨y0, y1, y2, y3, y4⟩ := five_row (Hbox.out _ _ HB116.out)
  have HT16 := hide' (HT.out w16 (Below.on (Hb.out _) HB116.out))
  clear hH15 b16 HG15 HW15 HrW15 HrG15 HB115 j0 j1 j2 j3 j4 j5 j6 j7 j8
  go_wp2_with fail
  refine HT16.out.mono ?_
  rintro e w17 ⟨c17, rfl, B17, hO17, hB17, b17⟩
  obtain ⟨pa3, pc3, ea3, ec3, rfl⟩ := HP.out _ _ _ hO17.read
  have Hb17 := hide' b17
  have HO17 := hide' hO17
  have HTB17 := hide' (HTB.out w17 (Below.on (Hb.out _) (Below.on HB116.out b17)))
  clear HT16 hO17 hB17 b17 y0 y1 y2 y3 y4
  go_wp2_with fail
  refine HTB17.out.mono ?_
  rintro e w18 ⟨rfl, hK18, b18⟩
  have hI18 := hide' (HIm.out _ w18 _ (Below.on (Hb.out _) (Below.on HB116.out (Below.on Hb17.out b18))) (HO17.out.on b18).read (HTg.out _ _ _ hK18))
  have Hb18 := hide' (Below.on Hb17.out b18)
  clear HTB17 HO17 hK18 b18 Hb17
  go_wp2_with fail
  refine hI18.out.mono ?_
  rintro e w19 ⟨ch, rfl, Bh, hH19, hBh, b19⟩
  obtain ⟨xaH, xlH, xpH, bkH, bnH, b2H, m2H, p2H, b3H, m3H, p3H, b4H, m4H, p4H, daH, dlH, dpH, rfl⟩ := HPe.out _ _ _ hH19
  have balH : Below w19.heap.size w19 (w19.alloc (.cells #[.slice xaH xlH xpH, .int .i64 bkH, .int .i64 bnH, .slice b2H m2H p2H, .slice b3H m3H p3H, .slice b4H m4H p4H, .slice daH dlH dpH, .bool tn, .int .i64 tu] 39)) := (Below.refl _ _).alloc (Nat.le_refl _) _
  have b1619 := Below.on (Below.on Hb18.out b19) balH
  obtain ⟨i0, i1, i2, i3, i4, i5, i6, i7, i8⟩ := ev_row (row_on HrW16.out b1619)
  have hE19 := hide' (HEA.out _ _ _ _ _ (hH19.on balH) (HW16.out.on b1619))
  have HG19 := hide' (HG16.out.on b1619)
  have HrG19 := hide' (row_on HrG16.out b1619)
  have HB119 := hide' (Below.on HB116.out b1619)
  clear hI18 Hb18 hH19 hBh b19 balH b1619 HG16 HW16 HrW16 HrG16 HB116
  go_wp2_with fail
  refine hE19.out.mono ?_
  rintro e w20 ⟨rfl, b20⟩
  obtain ⟨j0, j1, j2, j3, j4, j5, j6, j7, j8⟩ := ev_row (row_on HrG19.out b20)
  have hH20 := hide' (HHA.out _ _ _ (HG19.out.on b20))
  have HB120 := hide' (Below.on HB119.out b20)
  clear hE19 b20 HG19 HrG19 HB119 i0 i1 i2 i3 i4 i5 i6 i7 i8
  go_wp2_with fail
  refine hH20.out.mono ?_
  rintro e w21 ⟨rfl, b21⟩
  have HB121 := hide' (Below.on (Hb.out _) (Below.on HB120.out b21))
  clear hH20 b21 HB120 j0 j1 j2 j3 j4 j5 j6 j7 j8
  go_wp2
  go_ret
  exact ⟨rfl, HB121.out⟩
end Go.Proofs.YtbmgkmnibjdpiaaGreatDoor
