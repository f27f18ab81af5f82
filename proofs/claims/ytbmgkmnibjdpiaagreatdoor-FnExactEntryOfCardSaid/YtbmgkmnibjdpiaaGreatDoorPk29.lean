/-
  Texts that a law leans on, one behind the other; no statement is proved here.
-/
import Derived.Test.YtbmgkmnibjdpiaaGreatDoorPk25
import Derived.Test.YtbmgkmnibjdpiaaGreatDoorPk24
import Derived.Test.YtbmgkmnibjdpiaaGreatDoorPk28
import Derived.Test.YtbmgkmnibjdpiaaGreatDoorPk20
import Derived.Test.YtbmgkmnibjdpiaaGreatDoorPk27
import Derived.Test.YtbmgkmnibjdpiaaGreatDoorPk8
import Derived.Test.YtbmgkmnibjdpiaaGreatDoorPk19
/-
  EntryOf of the specification.
-/
namespace Go.Proofs.YtbmgkmnibjdpiaaGreatDoor
open Go.RowKit
set_option linter.unusedVariables false
set_option linter.unusedSimpArgs false

theorem infoN9 {cs : List Value} (h : cs.length = 9) : (Tryz.prog.info? 39).map (·.size) = some cs.length := by rw [h]; kernel_rfl

set_option maxHeartbeats 3200000 in
set_option maxRecDepth 100000 in
theorem spec_EntryOf_any (D N : Nat) (cs : List Value) (s : Stt (D + 1)) (xa : Option Addr) (xc : Nat) (xs : List Int) (w : World) (hx : SaSg (fun b => b < N) w (D + 1) cs s) (hN : N ≤ w.heap.size) (hz : SaSz (D + 1) s) (hX : TSeg (fun b => b < N) w (.slice xa xs.length xc) xs) (hxl : xs.length ≤ 1048576) :
    Calls Tryz.prog 10 #[.agg cs.toArray, .slice xa xs.length xc] w (AnsN D (entR D s xs) (entG D s xs) w) := by
  have HNo : Hid (staB (D + 1) s = false ∨ findK (adrL s.2.2.2.2) xs < 0 → entR D s xs = ntNil D ∧ entG D s xs = false) := ent_no
  have HYe : Hid (∀ k, staB (D + 1) s = true → ∀ hk : k < s.2.2.2.2.length, findK (adrL s.2.2.2.2) xs = k → entR D s xs = s.2.2.2.2[k] ∧ entG D s xs = true) := fun k h1 h2 h3 => ent_yes h1 h2 h3
  have hA : ∀ wx, Below w.heap.size w wx → Agree (fun b => b < N) w wx := fun wx hb => agree_below (hb.mono hN)
  have HXs : Hid (∀ wx, Below w.heap.size w wx → Seg wx xa xs ∧ ∀ x, xa = some x → xs ≠ [] → x.block < wx.heap.size) := fun wx hb => by
    obtain ⟨a', c', e1, hsa, _, _, _, hbl⟩ := hX.agree (hA wx hb)
    simp only [Value.slice.injEq, true_and] at e1
    obtain ⟨rfl, rfl⟩ := e1
    exact ⟨hsa, fun x e1 e2 => by have := hb.size; have := hbl x e1 e2; omega⟩
  have HA2 : Hid (∀ o o' : Obj, Below w.heap.size w ((w.alloc o).alloc o')) := fun o o' => ((Below.refl _ _).alloc (Nat.le_refl _) o).alloc (by simp) o'
  have HBx : Hid (∀ o o' : Obj, ((w.alloc o).alloc o').heap[w.heap.size]? = some o ∧ ((w.alloc o).alloc o').heap[w.heap.size + 1]? = some o') := fun o o' => two_boxes w o o'
  have HSt : Hid (∀ wx, Below w.heap.size w wx → Calls Tryz.prog 6 #[.agg cs.toArray] wx fun e w' => e = .returned (.bool (staB (D + 1) s)) ∧ Below wx.heap.size wx w') := fun wx hb => spec_StateOk_any (D + 1) N cs s wx (hx.agree (hA wx hb)) (by have := hb.size; omega)
  have HFi : Hid (∀ wx, Below w.heap.size w wx → Calls Tryz.prog 22 #[.agg cs.toArray, .slice xa xs.length xc] wx fun e w' => e = .returned (.int .i64 (findK (adrL s.2.2.2.2) xs)) ∧ Below wx.heap.size wx w') := fun wx hb => l4find_any (D + 1) N cs s xa xc xs wx (hx.agree (hA wx hb)) (by have := hb.size; omega) (HXs.out wx hb).1 (HXs.out wx hb).2
  obtain ⟨pa, pc, ea, ec, rfl, -, he⟩ := hx.form
  have HL : Hid (∀ wx, Below w.heap.size w wx → NtLS (fun b => b < N) wx (D + 1) (.slice ea s.2.2.2.2.length ec) s.2.2.2.2) := fun wx hb => he.agree (hA wx hb)
  have HZs := hide' hz.2.2
  have HNs := hide' hN
  have hcm : s.2.2.2.2.length ≤ 1048576 := hz.2.1
  obtain ⟨s0, s1, nm, s3, l⟩ := s
  simp only at HSt HFi HL HZs HYe HNo hcm ⊢
  clear hx he hz hX hA hN
  obtain ⟨ll, hll⟩ : ∃ ll, ll = l.length := ⟨_, rfl⟩
  have hllc : Hid (ll = l.length) := hll
  rw [← hll] at HSt HFi HL hcm
  rw [← hll]
  clear hll
  generalize nm.length = pl at *
  generalize hR0 : entR D (s0, s1, nm, s3, l) xs = R0 at *
  generalize hG0 : entG D (s0, s1, nm, s3, l) xs = G0 at *
  generalize staB (D + 1) (s0, s1, nm, s3, l) = sb at *
  clear hR0 hG0
  show Calls _ _ _ _ fun e w' => AnsN D R0 G0 w e w'
  have HW0 := hide' (HA2.out (.cells #[.int .i64 s0, .bool s1, .slice pa pl pc, .int .i64 s3, .slice ea ll ec] 30) (.cells #[.slice none 0 0, .int .i64 0, .int .i64 0, .slice none 0 0, .slice none 0 0, .slice none 0 0, .slice none 0 0, .bool false, .int .i64 0] 39))
  have HR := hide' (HBx.out (.cells #[.int .i64 s0, .bool s1, .slice pa pl pc, .int .i64 s3, .slice ea ll ec] 30) (.cells #[.slice none 0 0, .int .i64 0, .int .i64 0, .slice none 0 0, .slice none 0 0, .slice none 0 0, .slice none 0 0, .bool false, .int .i64 0] 39))
  have hsz0 := (Array.getElem?_eq_some_iff.1 HR.out.2).1
  have HZr : Hid (∀ wx, Below ((w.alloc (.cells #[.int .i64 s0, .bool s1, .slice pa pl pc, .int .i64 s3, .slice ea ll ec] 30)).alloc (.cells #[.slice none 0 0, .int .i64 0, .int .i64 0, .slice none 0 0, .slice none 0 0, .slice none 0 0, .slice none 0 0, .bool false, .int .i64 0] 39)).heap.size ((w.alloc (.cells #[.int .i64 s0, .bool s1, .slice pa pl pc, .int .i64 s3, .slice ea ll ec] 30)).alloc (.cells #[.slice none 0 0, .int .i64 0, .int .i64 0, .slice none 0 0, .slice none 0 0, .slice none 0 0, .slice none 0 0, .bool false, .int .i64 0] 39)) wx → wx.heap[w.heap.size + 1]? = some (.cells #[.slice none 0 0, .int .i64 0, .int .i64 0, .slice none 0 0, .slice none 0 0, .slice none 0 0, .slice none 0 0, .bool false, .int .i64 0] 39 (0, 0)) ∧ wx.heap[w.heap.size]? = some (.cells #[.int .i64 s0, .bool s1, .slice pa pl pc, .int .i64 s3, .slice ea ll ec] 30 (0, 0))) := fun wx hb => ⟨(hb.block _ hsz0).trans HR.out.2, (hb.block _ (by omega)).trans HR.out.1⟩
  clear hsz0 HR
  go_enter Tryz.func10, Tryz.ntmps10
  go_wp2_with fail
  refine (HSt.out _ HW0.out).mono ?_
  rintro e w1 ⟨rfl, b1⟩
  have HZ1 := hide' (HZr.out _ b1)
  have HB1 := hide' (Below.on HW0.out b1)
  clear b1 HSt HZr
  cases sb with
  | false =>
    have HNn := hide' (HNo.out (.inl rfl))
    clear HNo HYe HFi HL
    have HB : Hid (Below w.heap.size w w1) := HB1
    have HZr : Hid (∀ wx, Below w.heap.size w wx → w1.heap[w.heap.size + 1]? = some (.cells #[.slice none 0 0, .int .i64 0, .int .i64 0, .slice none 0 0, .slice none 0 0, .slice none 0 0, .slice none 0 0, .bool false, .int .i64 0] 39 (0, 0))) := fun _ _ => HZ1.out.1
    have hth : w1.there (w.heap.size + 1) 0 9 := there_of_row (HZr.out _ HB.out)
    have HLd := hide' (run_loadVar_mid (P := Tryz.prog) _ _ _ 39 _ _ (World.rangeAt_setCells_same w1 (w.heap.size + 1) 0 [.slice none 0 0, .int .i64 0, .int .i64 0, .slice none 0 0, .slice none 0 0, .slice none 0 0, .slice none 0 0, .bool false, .int .i64 0] hth) Tryz.underlying39 rfl (by kernel_rfl))
    have HFin : Hid (AnsN D (ntNil D) false w (.returned (.tuple #[.agg #[.slice none 0 0, .int .i64 0, .int .i64 0, .slice none 0 0, .slice none 0 0, .slice none 0 0, .slice none 0 0, .bool false, .int .i64 0], .bool false])) (w1.setCells (w.heap.size + 1) 0 [.slice none 0 0, .int .i64 0, .int .i64 0, .slice none 0 0, .slice none 0 0, .slice none 0 0, .slice none 0 0, .bool false, .int .i64 0])) := ansN_nil HB.out (by omega)
    go_wp2_with (refine wpList_store_mid rfl 39 (.tmp 4) (.tmp 10) (by rfl) (w.heap.size + 1) 0 #[.slice none 0 0, .int .i64 0, .int .i64 0, .slice none 0 0, .slice none 0 0, .slice none 0 0, .slice none 0 0, .bool false, .int .i64 0] (by rfl) (by rfl) hth (by kernel_rfl) (all_oneCell_toArray ntZ_one) ?_)
    refine bodyPost_ret (v := .tuple #[.agg #[.slice none 0 0, .int .i64 0, .int .i64 0, .slice none 0 0, .slice none 0 0, .slice none 0 0, .slice none 0 0, .bool false, .int .i64 0], .bool false]) (results_cellN 4 39 5 _ Tryz.results10 (by rfl) HLd.out (by rfl)) rfl ?_
    rw [HNn.out.1, HNn.out.2]
    exact HFin.out
  | true =>
  have HYe2 : Hid (∀ k, ∀ hk : k < l.length, findK (adrL l) xs = k → R0 = l[k] ∧ G0 = true) := fun k h1 h2 => HYe.out k rfl h1 h2
  have HNo2 : Hid (findK (adrL l) xs < 0 → R0 = ntNil D ∧ G0 = false) := fun h => HNo.out (.inr h)
  clear HYe HNo
  obtain ⟨f0, f1, f2, f3, f4⟩ := five_row HZ1.out.2
  go_wp2_with fail
  refine (HFi.out _ HB1.out).mono ?_
  rintro e w2 ⟨rfl, b2⟩
  have HZ2 : Hid (w2.heap[w.heap.size + 1]? = some (.cells #[.slice none 0 0, .int .i64 0, .int .i64 0, .slice none 0 0, .slice none 0 0, .slice none 0 0, .slice none 0 0, .bool false, .int .i64 0] 39 (0, 0)) ∧ w2.heap[w.heap.size]? = some (.cells #[.int .i64 s0, .bool s1, .slice pa pl pc, .int .i64 s3, .slice ea ll ec] 30 (0, 0))) := ⟨(b2.block _ (Array.getElem?_eq_some_iff.1 HZ1.out.1).1).trans HZ1.out.1, (b2.block _ (Array.getElem?_eq_some_iff.1 HZ1.out.2).1).trans HZ1.out.2⟩
  have HB : Hid (Below w.heap.size w w2) := Below.on HB1.out b2
  clear b2 HB1 HZ1 f0 f1 f2 f3 f4 HFi
  by_cases hneg : findK (adrL l) xs < 0
  · have HNn := hide' (HNo2.out hneg)
    have HZr : Hid (∀ wx, Below w.heap.size w wx → w2.heap[w.heap.size + 1]? = some (.cells #[.slice none 0 0, .int .i64 0, .int .i64 0, .slice none 0 0, .slice none 0 0, .slice none 0 0, .slice none 0 0, .bool false, .int .i64 0] 39 (0, 0))) := fun _ _ => HZ2.out.1
    clear HNo2 HYe2 HL
    generalize findK (adrL l) xs = fk at *
    have hth : w2.there (w.heap.size + 1) 0 9 := there_of_row (HZr.out _ HB.out)
    have HLd := hide' (run_loadVar_mid (P := Tryz.prog) _ _ _ 39 _ _ (World.rangeAt_setCells_same w2 (w.heap.size + 1) 0 [.slice none 0 0, .int .i64 0, .int .i64 0, .slice none 0 0, .slice none 0 0, .slice none 0 0, .slice none 0 0, .bool false, .int .i64 0] hth) Tryz.underlying39 rfl (by kernel_rfl))
    have HFin : Hid (AnsN D (ntNil D) false w (.returned (.tuple #[.agg #[.slice none 0 0, .int .i64 0, .int .i64 0, .slice none 0 0, .slice none 0 0, .slice none 0 0, .slice none 0 0, .bool false, .int .i64 0], .bool false])) (w2.setCells (w.heap.size + 1) 0 [.slice none 0 0, .int .i64 0, .int .i64 0, .slice none 0 0, .slice none 0 0, .slice none 0 0, .slice none 0 0, .bool false, .int .i64 0])) := ansN_nil HB.out (by omega)
    go_wp2_with (refine wpList_store_mid rfl 39 (.tmp 4) (.tmp 16) (by rfl) (w.heap.size + 1) 0 #[.slice none 0 0, .int .i64 0, .int .i64 0, .slice none 0 0, .slice none 0 0, .slice none 0 0, .slice none 0 0, .bool false, .int .i64 0] (by rfl) (by rfl) hth (by kernel_rfl) (all_oneCell_toArray ntZ_one) ?_)
    refine bodyPost_ret (v := .tuple #[.agg #[.slice none 0 0, .int .i64 0, .int .i64 0, .slice none 0 0, .slice none 0 0, .slice none 0 0, .slice none 0 0, .bool false, .int .i64 0], .bool false]) (results_cellN 4 39 5 _ Tryz.results10 (by rfl) HLd.out (by rfl)) rfl ?_
    rw [HNn.out.1, HNn.out.2]
    exact HFin.out
  · obtain ⟨k, hk, hf, -⟩ := findK_in (ks := adrL l) (x := xs) (by omega)
    rw [adrL_len] at hk
    have HYs := hide' (HYe2.out k hk hf)
    rw [hf]
    have hneg' : ¬ (k : Int) < 0 := by omega
    have hlt' : (k : Int) < (ll : Int) := by have := hllc.out; omega
    obtain ⟨b, off, rfl, hbN, hat⟩ := (HL.out w2 HB.out).full hk
    obtain ⟨cs, hr, hs⟩ := hat k hk
    have hlen := hs.len
    have HC := hide' (l4ownEntry_any (D + 1) N cs l[k] w2 hs (by have := HB.out.size; have := HNs.out; omega) (HZs.out k hk))
    obtain ⟨f0, f1, f2, f3, f4⟩ := five_row HZ2.out.2
    clear hat hs HYe2 HNo2 HL hneg hf
    go_wp2_with (refine wpList_load_mid rfl 39 (.tmp 20) (by rfl) b (off + k * 9) (by rfl) cs _ hr Tryz.underlying39 rfl (infoN9 hlen) ?_)
    refine HC.out.mono ?_
    rintro e w3 ⟨cz, rfl, Bz, hOz, hBz, b3⟩
    have hlen9 := hOz.read.len
    have hsz9 : cz.toArray.size = 9 := by simpa using hlen9
    have hone9 := hOz.read.one
    have HZr : Hid (∀ wx, Below w.heap.size w wx → w3.heap[w.heap.size + 1]? = some (.cells #[.slice none 0 0, .int .i64 0, .int .i64 0, .slice none 0 0, .slice none 0 0, .slice none 0 0, .slice none 0 0, .bool false, .int .i64 0] 39 (0, 0))) := fun _ _ => (b3.block _ (Array.getElem?_eq_some_iff.1 HZ2.out.1).1).trans HZ2.out.1
    have hBz2 : ∀ b ∈ Bz, w.heap.size + 1 < b := fun b hb => by have h1 := hBz b hb; have h2 := (Array.getElem?_eq_some_iff.1 HZ2.out.1).1; omega
    replace hBz := hBz2
    replace HB : Hid (Below w.heap.size w w3) := Below.on HB.out b3
    clear hBz2 b3 HC hr hlen f0 f1 f2 f3 f4
    have hth : w3.there (w.heap.size + 1) 0 cz.toArray.size := by rw [hsz9]; exact there_of_row (HZr.out _ HB.out)
    have hth2 : w3.there (w.heap.size + 1) 0 cz.length := by rw [hlen9]; exact there_of_row (HZr.out _ HB.out)
    have HLd := hide' (run_loadVar_mid (P := Tryz.prog) _ _ _ 39 _ _ (World.rangeAt_setCells_same w3 (w.heap.size + 1) 0 cz hth2) Tryz.underlying39 rfl (infoN9 hlen9))
    have HFin := hide' (ansN_of (D := D) (rb := w.heap.size + 1) HB.out hOz hBz (by omega))
    have hone := all_oneCell_toArray hone9
    clear hOz hBz
    go_wp2_with (refine wpList_store_mid rfl 39 (.tmp 4) (.tmp 22) (by rfl) (w.heap.size + 1) 0 cz.toArray (by rfl) (by rfl) hth (info_Entry hsz9) hone ?_)
    refine bodyPost_ret (v := .tuple #[.agg cz.toArray, .bool true]) (results_cellN 4 39 5 _ Tryz.results10 (by rfl) HLd.out (by rfl)) rfl ?_
    rw [HYs.out.1, HYs.out.2]
    exact HFin.out
end Go.Proofs.YtbmgkmnibjdpiaaGreatDoor
/-
  EntryOf of the program.
-/
namespace Go.Proofs.YtbmgkmnibjdpiaaGreatDoor
open Go.RowKit
set_option linter.unusedVariables false
set_option linter.unusedSimpArgs false

/-- The calls of has and entry at a world that was taken in. -/
theorem wld_calls {d N : Nat} {s : Stt d} {w0 w : World} {lo wB mB : Nat} {ps : List Value} {xs : List Int} {ex : Value} (hW : Wld d s lo wB mB ps w) (hst : staB d s = true) (hseg : NtLS (fun b => b < N) w0 d ex s.2.2.2.2) (hz : SaSz d s) (hby : ∀ x ∈ xs, Byt x) (hxl : xs.length ≤ 1048576) :
    (∀ wx, Below w.heap.size w wx → Calls Tryz.prog 29 #[.pointer (some ⟨wB, 0, none⟩), .string (strOf xs)] wx fun e w' => e = .returned (.bool (hasA (adrL s.2.2.2.2) xs)) ∧ Below wx.heap.size wx w') ∧
      ∀ (k : Nat) (hk : k < s.2.2.2.2.length), findK (adrL s.2.2.2.2) xs = k → ∀ wx, Below w.heap.size w wx → Calls Tryz.prog 30 #[.pointer (some ⟨wB, 0, none⟩), .string (strOf xs)] wx (NtEndD d s.2.2.2.2[k] wx) := by
  have hadr : ∀ i (hi : i < s.2.2.2.2.length), (adrL s.2.2.2.2).getD i [] = (s.2.2.2.2[i]).1 := fun i hi => adrL_at _ hi
  have hall : ∀ i (hi : i < s.2.2.2.2.length), NtSg' N w0 d s.2.2.2.2[i] := fun i hi => hseg.each hi
  have hbyt : ∀ i, i < (adrL s.2.2.2.2).length → ∀ x ∈ (adrL s.2.2.2.2).getD i [], Byt x := fun i hi => by
    rw [adrL_len] at hi
    rw [hadr i hi]
    exact (hall i hi).1
  have hst' : (ascA (adrL s.2.2.2.2) && s.2.2.2.2.all (entB d s.1)) = true := by
    unfold staB at hst
    rw [Bool.and_eq_true, Bool.and_eq_true] at hst
    exact hst.2.2
  rw [Bool.and_eq_true] at hst'
  have hup : ∀ i, i < (adrL s.2.2.2.2).length → upB (adrL s.2.2.2.2) i = true := fun i hi => by
    have h1 : stepA (adrL s.2.2.2.2) i = true := by
      have := hst'.1
      unfold ascA at this
      exact List.all_eq_true.1 this i (List.mem_range.2 hi)
    unfold stepA at h1
    rw [Bool.and_eq_true] at h1
    exact h1.2
  have hW2 : ∀ wx, Below w.heap.size w wx → Wld d s lo wB mB ps wx := fun wx hb => by
    obtain ⟨g1, g2, g3, g4, g5⟩ := hW
    have h1 := (Array.getElem?_eq_some_iff.1 g1).1
    have hz2 := hb.size
    exact ⟨(hb.block _ h1).trans g1, g2.kept (below_grows hb none) (by simp), fun i hi => (g3 i hi).carry (Nat.le_refl _) (fun q hq => ⟨hq.1, by omega⟩) (fun q hq => hb.block q hq.2), g4, g5⟩
  refine ⟨fun wx hb => ?_, fun k hk hf wx hb => ?_⟩
  · have hWz := hW2 wx hb
    obtain ⟨p, hrun, hp⟩ := look_held (ks := adrL s.2.2.2.2) (ps := ps) (key := xs) (by rw [adrL_len]; exact hWz.2.1) hup hbyt hby (by unfold maxLen; omega)
    have hsh : ∃ p0 p1 p2 p3, p = .agg #[p0, p1, p2, p3] ∧ ∃ m a n c t u, p0 = .map m ∧ p1 = .slice a n c ∧ p2 = .bool t ∧ p3 = .int .i64 u := by
      rcases hp with ⟨_, rfl⟩ | ⟨k, hk, _, _, rfl⟩
      · exact ⟨_, _, _, _, rfl, _, _, _, _, _, _, rfl, rfl, rfl, rfl⟩
      · rw [adrL_len] at hk
        obtain ⟨m, a, n, c, e, _⟩ := hWz.2.2.1 k hk
        exact ⟨_, _, _, _, e, _, _, _, _, _, _, rfl, rfl, rfl, rfl⟩
    obtain ⟨p0, p1, p2, p3, rfl, hs⟩ := hsh
    exact has_any hWz.1 hs hrun
  · have hWz := hW2 wx hb
    obtain ⟨m, a, n, c, e, hP, hS, hR⟩ := hWz.2.2.1 k hk
    have hlk : ∀ o : Obj, (Instr.lookup 76 (.map (some mB)) (.string (strOf xs)) false).run Tryz.prog (wx.alloc o) = .ok (.agg #[.map m, .slice a n c, .bool (s.2.2.2.2[k]).2.2.2.1, .int .i64 (s.2.2.2.2[k]).2.2.2.2]) (wx.alloc o) := fun o => by
      have := look_heldF (wx := wx.alloc o) (ks := adrL s.2.2.2.2) (ps := ps) (key := xs) (k := k) (by rw [adrL_len]; exact hWz.2.1.alloc o) hup hbyt hby (by unfold maxLen; omega) (by rw [adrL_len]; exact hk) hf
      rw [e] at this
      exact this
    have hent : entB d s.1 s.2.2.2.2[k] = true := List.all_eq_true.1 hst'.2 _ (List.getElem_mem _)
    unfold entB at hent
    rw [Bool.and_eq_true, Bool.and_eq_true] at hent
    have hokv : okB d (s.2.2.2.2[k]).2.1 = true := by
      have := hent.1
      unfold mapB at this
      rw [Bool.and_eq_true, Bool.and_eq_true] at this
      exact this.2.1
    have hads : (s.2.2.2.2[k]).2.2.1.length ≤ 8 := by
      have := hent.2.1
      unfold addrsB at this
      rw [Bool.and_eq_true, decide_eq_true_eq] at this
      exact this.1
    have hkey : (adrL s.2.2.2.2).getD k [] = xs := by
      obtain ⟨k', h1, h2, h3⟩ := findK_in (ks := adrL s.2.2.2.2) (x := xs) (by omega)
      obtain rfl : k' = k := by omega
      exact h3
    rw [hadr k hk] at hkey
    have hsK := keys_small (hz.2.2 k hk).2.2
    have hfin := entry_any (xs := xs) (v := (s.2.2.2.2[k]).2.1) (ks := (s.2.2.2.2[k]).2.2.1) hWz.1 hlk (PSeg.carry (fun q hq => hq.2) (fun q hq => rfl) d hP) hS hokv hby hxl (by omega) (hall k hk).2 (fun i hi => by rw [List.getD_eq_getElem?_getD, List.getElem?_eq_getElem hi]; exact hsK.2 _ (List.getElem_mem _))
    have hit : (xs, (s.2.2.2.2[k]).2.1, (s.2.2.2.2[k]).2.2.1, (s.2.2.2.2[k]).2.2.2.1, (s.2.2.2.2[k]).2.2.2.2) = s.2.2.2.2[k] := by
      rw [← hkey]
      rfl
    rw [hit] at hfin
    exact hfin

set_option maxHeartbeats 3200000 in
set_option maxRecDepth 100000 in
theorem impl_EntryOf_any (D N : Nat) (cs : List Value) (s : Stt (D + 1)) (xa : Option Addr) (xc : Nat) (xs : List Int) (w : World) (hx : SaSg (fun b => b < N) w (D + 1) cs s) (hN : N ≤ w.heap.size) (hz : SaSz (D + 1) s) (hX : TSeg (fun b => b < N) w (.slice xa xs.length xc) xs) (hxl : xs.length ≤ 1048576) (hEr : Errs w) :
    Calls Tryz.prog 12 #[.agg cs.toArray, .slice xa xs.length xc] w (AnsN D (entR D s xs) (entG D s xs) w) := by
  have HNo : Hid (staB (D + 1) s = false ∨ findK (adrL s.2.2.2.2) xs < 0 → entR D s xs = ntNil D ∧ entG D s xs = false) := ent_no
  have HYe : Hid (∀ k, staB (D + 1) s = true → ∀ hk : k < s.2.2.2.2.length, findK (adrL s.2.2.2.2) xs = k → entR D s xs = s.2.2.2.2[k] ∧ entG D s xs = true) := fun k h1 h2 h3 => ent_yes h1 h2 h3
  have hA : ∀ wx, Below w.heap.size w wx → Agree (fun b => b < N) w wx := fun wx hb => agree_below (hb.mono hN)
  have HXs : Hid (∀ wx, Below w.heap.size w wx → Seg wx xa xs ∧ ∀ x, xa = some x → xs ≠ [] → x.block < wx.heap.size) := fun wx hb => by
    obtain ⟨a', c', e1, hsa, _, _, _, hbl⟩ := hX.agree (hA wx hb)
    simp only [Value.slice.injEq, true_and] at e1
    obtain ⟨rfl, rfl⟩ := e1
    exact ⟨hsa, fun x e1 e2 => by have := hb.size; have := hbl x e1 e2; omega⟩
  have HA2 : Hid (∀ o o' : Obj, Below w.heap.size w ((w.alloc o).alloc o')) := fun o o' => ((Below.refl _ _).alloc (Nat.le_refl _) o).alloc (by simp) o'
  have HBx : Hid (∀ o o' : Obj, ((w.alloc o).alloc o').heap[w.heap.size]? = some o ∧ ((w.alloc o).alloc o').heap[w.heap.size + 1]? = some o') := fun o o' => two_boxes w o o'
  have hby : ∀ x ∈ xs, Byt x := (HXs.out w (Below.refl _ _)).1.1
  have HCv : Hid (∀ wx, Below w.heap.size w wx → (convert 22 9 (.slice xa xs.length xc)).run Tryz.prog wx = .ok (.string (strOf xs)) wx) := fun wx hb => conv_seg xc (HXs.out wx hb).1
  have HWo : Hid (∀ wx, Below w.heap.size w wx → Calls Tryz.prog 26 #[.agg cs.toArray] wx (WldEnd (D + 1) s wx)) := fun wx hb => worldOf_any (D + 1) N cs s wx (hx.agree (hA wx hb)) (by have := hb.size; omega) hz (hEr.grow hb)
  obtain ⟨pa, pc, ea, ec, rfl, -, he⟩ := hx.form
  have HCa : Hid (∀ (w2 : World) (lo wB mB : Nat) (ps : List Value), Wld (D + 1) s lo wB mB ps w2 → staB (D + 1) s = true → (∀ wx, Below w2.heap.size w2 wx → Calls Tryz.prog 29 #[.pointer (some ⟨wB, 0, none⟩), .string (strOf xs)] wx fun e w' => e = .returned (.bool (hasA (adrL s.2.2.2.2) xs)) ∧ Below wx.heap.size wx w') ∧ ∀ (k : Nat) (hk : k < s.2.2.2.2.length), findK (adrL s.2.2.2.2) xs = k → ∀ wx, Below w2.heap.size w2 wx → Calls Tryz.prog 30 #[.pointer (some ⟨wB, 0, none⟩), .string (strOf xs)] wx (NtEndD (D + 1) s.2.2.2.2[k] wx)) := fun w2 lo wB mB ps h1 h2 => wld_calls h1 h2 he hz hby hxl
  have HWe : Hid (∀ wx e w', WldEnd (D + 1) s wx e w' → Below wx.heap.size wx w' ∧ ((staB (D + 1) s = false ∧ e = .returned (.tuple #[.pointer none, .bool false])) ∨ (staB (D + 1) s = true ∧ ∃ wB mB ps, e = .returned (.tuple #[.pointer (some ⟨wB, 0, none⟩), .bool true]) ∧ Wld (D + 1) s wx.heap.size wB mB ps w'))) := fun wx e w' h => h
  obtain ⟨s0, s1, nm, s3, l⟩ := s
  simp only at HWo HCa HWe HYe HNo ⊢
  clear hx he hz hX hA hN hEr hby
  generalize nm.length = pl at *
  obtain ⟨ll, hll⟩ : ∃ ll, ll = l.length := ⟨_, rfl⟩
  rw [← hll] at HWo
  rw [← hll]
  clear hll
  generalize hR0 : entR D (s0, s1, nm, s3, l) xs = R0 at *
  generalize hG0 : entG D (s0, s1, nm, s3, l) xs = G0 at *
  generalize staB (D + 1) (s0, s1, nm, s3, l) = sb at *
  clear hR0 hG0
  show Calls _ _ _ _ fun e w' => AnsN D R0 G0 w e w'
  have HW0 := hide' (HA2.out (.cells #[.int .i64 s0, .bool s1, .slice pa pl pc, .int .i64 s3, .slice ea ll ec] 30) (.cells #[.slice none 0 0, .int .i64 0, .int .i64 0, .slice none 0 0, .slice none 0 0, .slice none 0 0, .slice none 0 0, .bool false, .int .i64 0] 39))
  have HR := hide' (HBx.out (.cells #[.int .i64 s0, .bool s1, .slice pa pl pc, .int .i64 s3, .slice ea ll ec] 30) (.cells #[.slice none 0 0, .int .i64 0, .int .i64 0, .slice none 0 0, .slice none 0 0, .slice none 0 0, .slice none 0 0, .bool false, .int .i64 0] 39)).2
  go_enter Tryz.func12, Tryz.ntmps12
  go_wp2_with fail
  refine (HWo.out _ HW0.out).mono ?_
  intro e w1 hE
  obtain ⟨b1, hcase⟩ := HWe.out _ _ _ hE
  have HZ1 : Hid (w1.heap[w.heap.size + 1]? = some (.cells #[.slice none 0 0, .int .i64 0, .int .i64 0, .slice none 0 0, .slice none 0 0, .slice none 0 0, .slice none 0 0, .bool false, .int .i64 0] 39 (0, 0))) := (b1.block _ (Array.getElem?_eq_some_iff.1 HR.out).1).trans HR.out
  have HB1 := hide' (Below.on HW0.out b1)
  clear b1 hE HWo HWe HR HW0
  rcases hcase with ⟨rfl, rfl⟩ | ⟨rfl, wB, mB, ps, rfl, hWd⟩
  · have HNn := hide' (HNo.out (.inl rfl))
    have HB : Hid (Below w.heap.size w w1) := HB1
    have HZr : Hid (∀ wx, Below w.heap.size w wx → w1.heap[w.heap.size + 1]? = some (.cells #[.slice none 0 0, .int .i64 0, .int .i64 0, .slice none 0 0, .slice none 0 0, .slice none 0 0, .slice none 0 0, .bool false, .int .i64 0] 39 (0, 0))) := fun _ _ => HZ1.out
    clear HNo HYe HCa
    have hth : w1.there (w.heap.size + 1) 0 9 := there_of_row (HZr.out _ HB.out)
    have HLd := hide' (run_loadVar_mid (P := Tryz.prog) _ _ _ 39 _ _ (World.rangeAt_setCells_same w1 (w.heap.size + 1) 0 [.slice none 0 0, .int .i64 0, .int .i64 0, .slice none 0 0, .slice none 0 0, .slice none 0 0, .slice none 0 0, .bool false, .int .i64 0] hth) Tryz.underlying39 rfl (by kernel_rfl))
    have HFin : Hid (AnsN D (ntNil D) false w (.returned (.tuple #[.agg #[.slice none 0 0, .int .i64 0, .int .i64 0, .slice none 0 0, .slice none 0 0, .slice none 0 0, .slice none 0 0, .bool false, .int .i64 0], .bool false])) (w1.setCells (w.heap.size + 1) 0 [.slice none 0 0, .int .i64 0, .int .i64 0, .slice none 0 0, .slice none 0 0, .slice none 0 0, .slice none 0 0, .bool false, .int .i64 0])) := ansN_nil HB.out (by omega)
    go_wp2_with (refine wpList_store_mid rfl 39 (.tmp 4) (.tmp 22) (by rfl) (w.heap.size + 1) 0 #[.slice none 0 0, .int .i64 0, .int .i64 0, .slice none 0 0, .slice none 0 0, .slice none 0 0, .slice none 0 0, .bool false, .int .i64 0] (by rfl) (by rfl) hth (by kernel_rfl) (all_oneCell_toArray ntZ_one) ?_)
    refine bodyPost_ret (v := .tuple #[.agg #[.slice none 0 0, .int .i64 0, .int .i64 0, .slice none 0 0, .slice none 0 0, .slice none 0 0, .slice none 0 0, .bool false, .int .i64 0], .bool false]) (results_cellN 4 39 5 _ Tryz.results12 (by rfl) HLd.out (by rfl)) rfl ?_
    rw [HNn.out.1, HNn.out.2]
    exact HFin.out
  · have HYe2 : Hid (∀ k, ∀ hk : k < l.length, findK (adrL l) xs = k → R0 = l[k] ∧ G0 = true) := fun k h1 h2 => HYe.out k rfl h1 h2
    have HNo2 : Hid (findK (adrL l) xs < 0 → R0 = ntNil D ∧ G0 = false) := fun h => HNo.out (.inr h)
    obtain ⟨hHas, hEnt⟩ := HCa.out w1 _ wB mB ps hWd rfl
    have HHas := hide' (hHas w1 (Below.refl _ _))
    have HEnt := hide' hEnt
    have hcv1 := HCv.out w1 HB1.out
    clear HYe HNo HCa hHas hEnt hWd
    by_cases hneg : 0 ≤ findK (adrL l) xs
    rotate_left
    · have HNn := hide' (HNo2.out (by omega))
      have hh : hasA (adrL l) xs = false := by unfold hasA; exact decide_eq_false hneg
      rw [hh] at HHas
      clear HNo2 HYe2 HEnt hh
      go_wp2_with fail
      refine HHas.out.mono ?_
      rintro e w2 ⟨rfl, b2⟩
      have HB : Hid (Below w.heap.size w w2) := Below.on HB1.out b2
      have HZr : Hid (∀ wx, Below w.heap.size w wx → w2.heap[w.heap.size + 1]? = some (.cells #[.slice none 0 0, .int .i64 0, .int .i64 0, .slice none 0 0, .slice none 0 0, .slice none 0 0, .slice none 0 0, .bool false, .int .i64 0] 39 (0, 0))) := fun _ _ => (b2.block _ (Array.getElem?_eq_some_iff.1 HZ1.out).1).trans HZ1.out
      clear b2 hcv1 hneg
      have hth : w2.there (w.heap.size + 1) 0 9 := there_of_row (HZr.out _ HB.out)
      have HLd := hide' (run_loadVar_mid (P := Tryz.prog) _ _ _ 39 _ _ (World.rangeAt_setCells_same w2 (w.heap.size + 1) 0 [.slice none 0 0, .int .i64 0, .int .i64 0, .slice none 0 0, .slice none 0 0, .slice none 0 0, .slice none 0 0, .bool false, .int .i64 0] hth) Tryz.underlying39 rfl (by kernel_rfl))
      have HFin : Hid (AnsN D (ntNil D) false w (.returned (.tuple #[.agg #[.slice none 0 0, .int .i64 0, .int .i64 0, .slice none 0 0, .slice none 0 0, .slice none 0 0, .slice none 0 0, .bool false, .int .i64 0], .bool false])) (w2.setCells (w.heap.size + 1) 0 [.slice none 0 0, .int .i64 0, .int .i64 0, .slice none 0 0, .slice none 0 0, .slice none 0 0, .slice none 0 0, .bool false, .int .i64 0])) := ansN_nil HB.out (by omega)
      go_wp2_with (refine wpList_store_mid rfl 39 (.tmp 4) (.tmp 22) (by rfl) (w.heap.size + 1) 0 #[.slice none 0 0, .int .i64 0, .int .i64 0, .slice none 0 0, .slice none 0 0, .slice none 0 0, .slice none 0 0, .bool false, .int .i64 0] (by rfl) (by rfl) hth (by kernel_rfl) (all_oneCell_toArray ntZ_one) ?_)
      refine bodyPost_ret (v := .tuple #[.agg #[.slice none 0 0, .int .i64 0, .int .i64 0, .slice none 0 0, .slice none 0 0, .slice none 0 0, .slice none 0 0, .bool false, .int .i64 0], .bool false]) (results_cellN 4 39 5 _ Tryz.results12 (by rfl) HLd.out (by rfl)) rfl ?_
      rw [HNn.out.1, HNn.out.2]
      exact HFin.out
    · obtain ⟨k, hk, hf, -⟩ := findK_in (ks := adrL l) (x := xs) hneg
      rw [adrL_len] at hk
      have HYs := hide' (HYe2.out k hk hf)
      have hh : hasA (adrL l) xs = true := by unfold hasA; exact decide_eq_true hneg
      rw [hh] at HHas
      have HEn := hide' (HEnt.out k hk hf)
      clear HNo2 HYe2 HEnt hh hneg hf
      go_wp2_with fail
      refine HHas.out.mono ?_
      rintro e w2 ⟨rfl, b2⟩
      have hcv2 := HCv.out w2 (Below.on HB1.out b2)
      have HC := hide' (HEn.out w2 b2)
      have HZ2 : Hid (w2.heap[w.heap.size + 1]? = some (.cells #[.slice none 0 0, .int .i64 0, .int .i64 0, .slice none 0 0, .slice none 0 0, .slice none 0 0, .slice none 0 0, .bool false, .int .i64 0] 39 (0, 0))) := (b2.block _ (Array.getElem?_eq_some_iff.1 HZ1.out).1).trans HZ1.out
      have HB2 : Hid (Below w.heap.size w w2) := Below.on HB1.out b2
      clear b2 hcv1 HEn HZ1 HB1 HHas
      go_wp2_with fail
      refine HC.out.mono ?_
      rintro e w3 ⟨cz, rfl, Bz, hOz, hBz, b3⟩
      have hlen9 := hOz.read.len
      have hsz9 : cz.toArray.size = 9 := by simpa using hlen9
      have hone9 := hOz.read.one
      have HZr : Hid (∀ wx, Below w.heap.size w wx → w3.heap[w.heap.size + 1]? = some (.cells #[.slice none 0 0, .int .i64 0, .int .i64 0, .slice none 0 0, .slice none 0 0, .slice none 0 0, .slice none 0 0, .bool false, .int .i64 0] 39 (0, 0))) := fun _ _ => (b3.block _ (Array.getElem?_eq_some_iff.1 HZ2.out).1).trans HZ2.out
      have hBz2 : ∀ b ∈ Bz, w.heap.size + 1 < b := fun b hb => by have h1 := hBz b hb; have h2 := (Array.getElem?_eq_some_iff.1 HZ2.out).1; omega
      replace hBz := hBz2
      have HB : Hid (Below w.heap.size w w3) := Below.on HB2.out b3
      clear hBz2 b3 HC hcv2 HZ2 HB2
      have hth : w3.there (w.heap.size + 1) 0 cz.toArray.size := by rw [hsz9]; exact there_of_row (HZr.out _ HB.out)
      have hth2 : w3.there (w.heap.size + 1) 0 cz.length := by rw [hlen9]; exact there_of_row (HZr.out _ HB.out)
      have HLd := hide' (run_loadVar_mid (P := Tryz.prog) _ _ _ 39 _ _ (World.rangeAt_setCells_same w3 (w.heap.size + 1) 0 cz hth2) Tryz.underlying39 rfl (infoN9 hlen9))
      have HFin := hide' (ansN_of (D := D) (rb := w.heap.size + 1) HB.out hOz hBz (by omega))
      have hone := all_oneCell_toArray hone9
      clear hOz hBz
      go_wp2_with (refine wpList_store_mid rfl 39 (.tmp 4) (.tmp 26) (by rfl) (w.heap.size + 1) 0 cz.toArray (by rfl) (by rfl) hth (info_Entry hsz9) hone ?_)
      refine bodyPost_ret (v := .tuple #[.agg cz.toArray, .bool true]) (results_cellN 4 39 5 _ Tryz.results12 (by rfl) HLd.out (by rfl)) rfl ?_
      rw [HYs.out.1, HYs.out.2]
      exact HFin.out
end Go.Proofs.YtbmgkmnibjdpiaaGreatDoor
/-
  markEntryS, markPlan: all that a list of acts of the call's own holds is marked, and nothing else is turned.
-/
namespace Go.Proofs.YtbmgkmnibjdpiaaGreatDoor
open Go.RowKit
set_option linter.unusedVariables false
set_option linter.unusedSimpArgs false

/-- Entry i as it was, in blocks of its window. -/
def WholeN (w : World) (d g : Nat) (s : Nat → Nat) (it : Ntr d) (i : Nat) : Prop := ∃ cs B, w.rangeAt g (i * 9) cs ∧ NtOwn w d cs it B ∧ ∀ b ∈ B, s i ≤ b ∧ b < s (i + 1)

/-- What stands while the entries from k on are still as they were. -/
def MkNs (w0 : World) (d g : Nat) (l : List (Ntr d)) (s : Nat → Nat) (k : Nat) (w : World) : Prop :=
  w.there g 0 (l.length * 9) ∧ (∀ i (h : i < l.length), k ≤ i → WholeN w d g s l[i] i) ∧ Turned (List.range' g (s l.length - g)) w0 w

/-- The same while record k is being marked; its five slices stand in their cells. -/
def MkN9 (w0 : World) (d g : Nat) (l : List (Ntr d)) (s : Nat → Nat) (k : Nat) (c1 c5 c6 c7 c8 : Value) (w : World) : Prop :=
  MkNs w0 d g l s (k + 1) w ∧ w.cell? ⟨g, k * 9, none⟩ = some c1 ∧ w.cell? ⟨g, k * 9 + 1 + 2, none⟩ = some c5 ∧ w.cell? ⟨g, k * 9 + 1 + 3, none⟩ = some c6 ∧ w.cell? ⟨g, k * 9 + 1 + 4, none⟩ = some c7 ∧ w.cell? ⟨g, k * 9 + 6, none⟩ = some c8

variable {w0 w w' : World} {d g k : Nat} {l : List (Ntr d)} {s : Nat → Nat} {c1 c5 c6 c7 c8 : Value}

theorem mkns_store (h : MkNs w0 d g l s (k + 1) w) (hw : ∀ i, i < l.length → s i ≤ s (i + 1)) (hg0 : g < s 0) (hk : k < l.length) (j : Nat) (hj : j < 9) (v : Value) : MkNs w0 d g l s (k + 1) (w.setCell ⟨g, k * 9 + j, none⟩ v) := by
  obtain ⟨h1, h2, h3⟩ := h
  have hg := grown1 w g (k * 9 + j) v
  have hwin := win_mono hw l.length 0 (by omega) (by omega)
  refine ⟨?_, fun i hi hik => ?_, ?_⟩
  · have := World.there_setCells h1 g (k * 9 + j) [v]
    exact this
  · obtain ⟨cs, B, hr, ho, hB⟩ := h2 i hi hik
    have hl := ho.len
    have hw1 := win_mono hw i 0 (by omega) (by omega)
    refine ⟨cs, B, fun q u hu => ?_, ho.agree fun b hb => ?_, hB⟩
    · have hq : q < 9 := by rw [← hl]; exact (List.getElem?_eq_some_iff.1 hu).1
      rw [← hr q u hu]
      exact cell_store_ne (by intro _ _; simp; omega)
    · have hb' := hB b hb
      exact hg.block b (ho.lt b hb) (by simp; omega)
  · refine h3.trans (Turned.of_grown hg fun b hb => ?_)
    simp at hb
    subst hb
    simp only [List.mem_range'_1]
    omega

theorem mkns_mark {C : List Nat} (h : MkNs w0 d g l s (k + 1) w) (hw : ∀ i, i < l.length → s i ≤ s (i + 1)) (hg0 : g < s 0) (hk : k < l.length) (hT : Turned C w w') (hC : ∀ b ∈ C, s k ≤ b ∧ b < s (k + 1)) (hgl : g < w.heap.size) : MkNs w0 d g l s (k + 1) w' := by
  obtain ⟨h1, h2, h3⟩ := h
  have hgC : g ∉ C := fun hm => by have := hC g hm; have := win_mono hw k 0 (by omega) (by omega); omega
  have hgb := hT.block g hgl hgC
  refine ⟨fun q hq => ?_, fun i hi hik => ?_, h3.trans (hT.mono fun b hb => ?_)⟩
  · obtain ⟨q1, q2⟩ := h1 q hq
    exact ⟨by rw [World.cell?_of_block (w := w) (w' := w') hgb]; exact q1, by rw [World.frozen?_of_block (w := w) (w' := w') hgb]; exact q2⟩
  · obtain ⟨cs, B, hr, ho, hB⟩ := h2 i hi hik
    have hw1 := win_mono hw i (k + 1) (by omega) (by omega)
    refine ⟨cs, B, fun q u hu => (World.cell?_of_block hgb).trans (hr q u hu), ho.agree fun b hb => hT.block b (ho.lt b hb) fun hm => ?_, hB⟩
    have e1 := hB b hb
    have e2 := hC b hm
    omega
  · have e2 := hC b hb
    have hw1 := win_mono hw l.length (k + 1) (by omega) (by omega)
    have hw2 := win_mono hw k 0 (by omega) (by omega)
    simp only [List.mem_range'_1]
    omega

theorem mkn9_store (h : MkN9 w0 d g l s k c1 c5 c6 c7 c8 w) (hw : ∀ i, i < l.length → s i ≤ s (i + 1)) (hg0 : g < s 0) (hk : k < l.length) (j : Nat) (hj : j = 1 ∨ j = 2 ∨ j = 7 ∨ j = 8) (v : Value) : MkN9 w0 d g l s k c1 c5 c6 c7 c8 (w.setCell ⟨g, k * 9 + j, none⟩ v) := by
  obtain ⟨h1, q1, q5, q6, q7, q8⟩ := h
  refine ⟨mkns_store h1 hw hg0 hk j (by omega) v, ?_, ?_, ?_, ?_, ?_⟩
  · rw [← q1]; exact cell_store_ne (by intro _ _; simp; omega)
  · rw [← q5]; exact cell_store_ne (by intro _ _; simp; omega)
  · rw [← q6]; exact cell_store_ne (by intro _ _; simp; omega)
  · rw [← q7]; exact cell_store_ne (by intro _ _; simp; omega)
  · rw [← q8]; exact cell_store_ne (by intro _ _; simp; omega)

theorem mkn9_lt (h : MkN9 w0 d g l s k c1 c5 c6 c7 c8 w) : g < w.heap.size := World.block_lt_of_cell? w _ h.2.1
theorem mkn9_mark {C : List Nat} (h : MkN9 w0 d g l s k c1 c5 c6 c7 c8 w) (hw : ∀ i, i < l.length → s i ≤ s (i + 1)) (hg0 : g < s 0) (hk : k < l.length) (hT : Turned C w w') (hC : ∀ b ∈ C, s k ≤ b ∧ b < s (k + 1)) : MkN9 w0 d g l s k c1 c5 c6 c7 c8 w' := by
  have hgl := mkn9_lt h
  obtain ⟨h1, q1, q5, q6, q7, q8⟩ := h
  have hgC : g ∉ C := fun hm => by have := hC g hm; have := win_mono hw k 0 (by omega) (by omega); omega
  have hgb := hT.block g hgl hgC
  exact ⟨mkns_mark h1 hw hg0 hk hT hC hgl, (World.cell?_of_block hgb).trans q1, (World.cell?_of_block hgb).trans q5, (World.cell?_of_block hgb).trans q6, (World.cell?_of_block hgb).trans q7, (World.cell?_of_block hgb).trans q8⟩

theorem mkn9_cell (h : MkN9 w0 d g l s k c1 c5 c6 c7 c8 w) (hk : k < l.length) (j : Nat) (hj : j < 9) : (∃ y, w.cell? ⟨g, k * 9 + j, none⟩ = some y) ∧ w.frozen? ⟨g, k * 9 + j, none⟩ = false := by
  obtain ⟨q1, q2⟩ := h.1.1 (k * 9 + j) (by omega)
  rw [Nat.zero_add] at q1 q2
  exact ⟨Option.isSome_iff_exists.1 q1, q2⟩
end Go.Proofs.YtbmgkmnibjdpiaaGreatDoor
