/-
  Texts that a law leans on, one behind the other; no statement is proved here.
-/
import Derived.Test.YtngjhimieacjhaaGreatDoorPk33
import Derived.Test.YtngjhimieacjhaaGreatDoorPk19
import Derived.Test.YtngjhimieacjhaaGreatDoorPk34
import Derived.Deep.RegionHeld3
/-
  Differ of the specification.
-/
namespace Go.Proofs.YtngjhimieacjhaaGreatDoor
open Go.RowKit Go.Shelf
set_option linter.unusedVariables false
set_option linter.unusedSimpArgs false

/-- Where an entry's value stands. -/
theorem nt_val {N : Nat} {w : World} {d : Nat} {ea : Option Addr} {n ec : Nat} {l : List (Ntr d)} (h : NtLS (fun b => b < N) w d (.slice ea n ec) l) (hN : N ≤ w.heap.size) {k : Nat} (hk : k < l.length) :
    ∃ kb ko na np bk bn a2 l2 p2 a3 l3 p3 a4 l4 p4, ea = some ⟨kb, ko, none⟩ ∧ ∀ wx, Below w.heap.size w wx → wx.cell? ⟨kb, ko + k * 9, none⟩ = some (.slice na (l[k]).1.length np) ∧ wx.cell? ⟨kb, ko + k * 9 + 1, none⟩ = some (.int .i64 bk) ∧ wx.cell? ⟨kb, ko + k * 9 + 2, none⟩ = some (.int .i64 bn) ∧ wx.cell? ⟨kb, ko + k * 9 + 3, none⟩ = some (.slice a2 l2 p2) ∧ wx.cell? ⟨kb, ko + k * 9 + 4, none⟩ = some (.slice a3 l3 p3) ∧ wx.cell? ⟨kb, ko + k * 9 + 5, none⟩ = some (.slice a4 l4 p4) ∧ TSeg (fun b => b < N) wx (.slice na (l[k]).1.length np) (l[k]).1 ∧ VSeg (fun b => b < N) wx d (.int .i64 bk, .int .i64 bn, .slice a2 l2 p2, .slice a3 l3 p3, .slice a4 l4 p4) (l[k]).2.1 := by
  obtain ⟨kb, ko, cs, rfl, hkb, hr, hs⟩ := h.at hk
  obtain ⟨na, np, bk, bn, a2, l2, p2, a3, l3, p3, a4, l4, p4, xa, xp, rfl, ht, hv, -⟩ := hs.form
  refine ⟨kb, ko, na, np, bk, bn, a2, l2, p2, a3, l3, p3, a4, l4, p4, rfl, fun wx hb => ?_⟩
  have hkb' : kb < w.heap.size := Nat.lt_of_lt_of_le hkb hN
  have hA : Agree (fun b => b < N) w wx := agree_below (hb.mono hN)
  have hc : ∀ {q : Addr} {v : Value}, q.block = kb → w.cell? q = some v → wx.cell? q = some v := fun e h => (World.cell?_of_block (by rw [e]; exact hb.block kb hkb')).trans h
  exact ⟨hc rfl (hr 0 _ rfl), hc rfl (hr 1 _ rfl), hc rfl (hr 2 _ rfl), hc rfl (hr 3 _ rfl), hc rfl (hr 4 _ rfl), hc rfl (hr 5 _ rfl), ht.agree hA, VSeg.agree hA d hv⟩
theorem mapB_good {d : Nat} {v : Vl d} (h : mapB d v = true) : goodB d v 1 = true ∧ partsV d v ≤ 40 := by
  unfold mapB at h
  rw [Bool.and_eq_true, Bool.and_eq_true] at h
  have h2 := h.2.1
  unfold okB at h2
  rw [Bool.and_eq_true, decide_eq_true_eq] at h2
  exact h2
theorem entB_map {d : Nat} {n : Int} {e : Ntr d} (h : entB d n e = true) : mapB d e.2.1 = true := by
  unfold entB at h
  rw [Bool.and_eq_true] at h
  exact h.1

/-- The answer so far. -/
def ouA {d : Nat} (l : List (Ntr d)) (p : Ntr d → Bool) (z : List (List Int)) (k : Nat) : List (List Int) := (fltA (l.take k) p).foldl insN z
theorem ouA_zero {d : Nat} (l : List (Ntr d)) (p : Ntr d → Bool) (z : List (List Int)) : ouA l p z 0 = z := rfl
theorem ouA_yes {d : Nat} {l : List (Ntr d)} {p : Ntr d → Bool} {z : List (List Int)} {k : Nat} (hk : k < l.length) (hp : p l[k] = true) : ouA l p z (k + 1) = insN (ouA l p z k) (l[k]).1 := by
  unfold ouA fltA adrL
  rw [List.take_succ_eq_append_getElem hk, List.filter_append, List.map_append, List.foldl_append]
  simp [hp]
theorem ouA_no {d : Nat} {l : List (Ntr d)} {p : Ntr d → Bool} {z : List (List Int)} {k : Nat} (hk : k < l.length) (hp : p l[k] = false) : ouA l p z (k + 1) = ouA l p z k := by
  unfold ouA fltA adrL
  rw [List.take_succ_eq_append_getElem hk, List.filter_append, List.map_append, List.foldl_append]
  simp [hp]
theorem ouA_len {d : Nat} (l : List (Ntr d)) (p : Ntr d → Bool) (z : List (List Int)) (k : Nat) : (ouA l p z k).length ≤ z.length + l.length := by
  have h1 := fold_len (fltA (l.take k) p) z
  have h2 : (fltA (l.take k) p).length ≤ (l.take k).length := fltA_len
  rw [List.length_take] at h2
  unfold ouA
  omega
theorem ouA_end (D : Nat) (la lb : List (Ntr (D + 1))) : ouA lb (newP D la) (ouA la (difP D lb) [] la.length) lb.length = dfL D la lb := by
  unfold ouA dfL
  rw [List.take_length, List.take_length, List.foldl_append]
theorem dfL_short {D : Nat} {s t : Stt (D + 1)} (hs : staB (D + 1) s = true) (ht : staB (D + 1) t = true) : ∀ x ∈ dfL D s.2.2.2.2 t.2.2.2.2, x.length ≤ 60 := by
  intro x hx
  have h := mem_fold _ _ _ hx
  simp only [List.not_mem_nil, or_false, List.mem_append] at h
  rcases h with h | h
  · obtain ⟨i, hi, rfl⟩ := fltA_mem h
    exact staB_short hs hi
  · obtain ⟨i, hi, rfl⟩ := fltA_mem h
    exact staB_short ht hi
theorem dfL_len {D : Nat} {s t : Stt (D + 1)} (hs : staB (D + 1) s = true) (ht : staB (D + 1) t = true) : (dfL D s.2.2.2.2 t.2.2.2.2).length ≤ 32 := by
  have h1 := fold_len (fltA s.2.2.2.2 (difP D t.2.2.2.2) ++ fltA t.2.2.2.2 (newP D s.2.2.2.2)) []
  rw [List.length_append] at h1
  have h2 : (fltA s.2.2.2.2 (difP D t.2.2.2.2)).length ≤ s.2.2.2.2.length := fltA_len
  have h3 : (fltA t.2.2.2.2 (newP D s.2.2.2.2)).length ≤ t.2.2.2.2.length := fltA_len
  have h4 := staB_len hs
  have h5 := staB_len ht
  unfold dfL
  simp at h1 ⊢
  omega

set_option maxHeartbeats 12800000 in
set_option maxRecDepth 100000 in
theorem spec_Differ_any (D N : Nat) (cs ct : List Value) (s t : Stt (D + 1)) (w : World) (hx : SaSg (fun b => b < N) w (D + 1) cs s) (hy : SaSg (fun b => b < N) w (D + 1) ct t) (hN : N ≤ w.heap.size) (hzs : SaSz (D + 1) s) (hzt : SaSz (D + 1) t) :
    Calls Tryz.prog 20 #[.agg cs.toArray, .agg ct.toArray] w (KEnd (dfA D s t) w) := by
  have hA : ∀ wx, Below w.heap.size w wx → Agree (fun b => b < N) w wx := fun wx hb => agree_below (hb.mono hN)
  have hZ : ∀ wx, Below w.heap.size w wx → N ≤ wx.heap.size := fun wx hb => by have := hb.size; omega
  have HZ := hide' hZ
  have HA2 : Hid (∀ o o' : Obj, Below w.heap.size w ((w.alloc o).alloc o')) := fun o o' => ((Below.refl _ _).alloc (Nat.le_refl _) o).alloc (by simp) o'
  have HBx : Hid (∀ (o o' : Obj) wx, Below ((w.alloc o).alloc o').heap.size ((w.alloc o).alloc o') wx → wx.heap[w.heap.size]? = some o ∧ wx.heap[w.heap.size + 1]? = some o') := fun o o' wx h => ⟨(h.block _ (by simp; omega)).trans (two_boxes w o o').1, (h.block _ (by simp)).trans (two_boxes w o o').2⟩
  have HSa : Hid (∀ wx, Below w.heap.size w wx → Calls Tryz.prog 24 #[.agg cs.toArray] wx fun e w' => e = .returned (.bool (staB (D + 1) s)) ∧ Below wx.heap.size wx w') := fun wx hb => spec_StateOk_any (D + 1) N cs s wx (hx.agree (hA wx hb)) (hZ wx hb)
  have HSb : Hid (∀ wx, Below w.heap.size w wx → Calls Tryz.prog 24 #[.agg ct.toArray] wx fun e w' => e = .returned (.bool (staB (D + 1) t)) ∧ Below wx.heap.size wx w') := fun wx hb => spec_StateOk_any (D + 1) N ct t wx (hy.agree (hA wx hb)) (hZ wx hb)
  have HFa : Hid (∀ wx ka kc key, Below w.heap.size w wx → TSeg (fun b => b < N) wx (.slice ka key.length kc) key → Calls Tryz.prog 34 #[.agg cs.toArray, .slice ka key.length kc] wx fun e w' => e = .returned (.int .i64 (findK (adrL s.2.2.2.2) key)) ∧ Below wx.heap.size wx w') := fun wx ka kc key hb hT => l4find_any (D + 1) N cs s ka kc key wx (hx.agree (hA wx hb)) (hZ wx hb) (tseg_in hT (hZ wx hb)).1 (tseg_in hT (hZ wx hb)).2.2.2
  have HFb : Hid (∀ wx ka kc key, Below w.heap.size w wx → TSeg (fun b => b < N) wx (.slice ka key.length kc) key → Calls Tryz.prog 34 #[.agg ct.toArray, .slice ka key.length kc] wx fun e w' => e = .returned (.int .i64 (findK (adrL t.2.2.2.2) key)) ∧ Below wx.heap.size wx w') := fun wx ka kc key hb hT => l4find_any (D + 1) N ct t ka kc key wx (hy.agree (hA wx hb)) (hZ wx hb) (tseg_in hT (hZ wx hb)).1 (tseg_in hT (hZ wx hb)).2.2.2
  obtain ⟨sa, sc, se, sf, rfl, -, hea⟩ := hx.form
  obtain ⟨ta, tc, te, tf, rfl, -, heb⟩ := hy.form
  have HAa : Hid (∀ k (hk : k < s.2.2.2.2.length), ∃ kb ko na np bk bn a2 l2 p2 a3 l3 p3 a4 l4 p4, se = some ⟨kb, ko, none⟩ ∧ ∀ wx, Below w.heap.size w wx → wx.cell? ⟨kb, ko + k * 9, none⟩ = some (.slice na (s.2.2.2.2[k]).1.length np) ∧ wx.cell? ⟨kb, ko + k * 9 + 1, none⟩ = some (.int .i64 bk) ∧ wx.cell? ⟨kb, ko + k * 9 + 2, none⟩ = some (.int .i64 bn) ∧ wx.cell? ⟨kb, ko + k * 9 + 3, none⟩ = some (.slice a2 l2 p2) ∧ wx.cell? ⟨kb, ko + k * 9 + 4, none⟩ = some (.slice a3 l3 p3) ∧ wx.cell? ⟨kb, ko + k * 9 + 5, none⟩ = some (.slice a4 l4 p4) ∧ TSeg (fun b => b < N) wx (.slice na (s.2.2.2.2[k]).1.length np) (s.2.2.2.2[k]).1 ∧ VSeg (fun b => b < N) wx (D + 1) (.int .i64 bk, .int .i64 bn, .slice a2 l2 p2, .slice a3 l3 p3, .slice a4 l4 p4) (s.2.2.2.2[k]).2.1) := fun k hk => nt_val hea hN hk
  have HAb : Hid (∀ k (hk : k < t.2.2.2.2.length), ∃ kb ko na np bk bn a2 l2 p2 a3 l3 p3 a4 l4 p4, te = some ⟨kb, ko, none⟩ ∧ ∀ wx, Below w.heap.size w wx → wx.cell? ⟨kb, ko + k * 9, none⟩ = some (.slice na (t.2.2.2.2[k]).1.length np) ∧ wx.cell? ⟨kb, ko + k * 9 + 1, none⟩ = some (.int .i64 bk) ∧ wx.cell? ⟨kb, ko + k * 9 + 2, none⟩ = some (.int .i64 bn) ∧ wx.cell? ⟨kb, ko + k * 9 + 3, none⟩ = some (.slice a2 l2 p2) ∧ wx.cell? ⟨kb, ko + k * 9 + 4, none⟩ = some (.slice a3 l3 p3) ∧ wx.cell? ⟨kb, ko + k * 9 + 5, none⟩ = some (.slice a4 l4 p4) ∧ TSeg (fun b => b < N) wx (.slice na (t.2.2.2.2[k]).1.length np) (t.2.2.2.2[k]).1 ∧ VSeg (fun b => b < N) wx (D + 1) (.int .i64 bk, .int .i64 bn, .slice a2 l2 p2, .slice a3 l3 p3, .slice a4 l4 p4) (t.2.2.2.2[k]).2.1) := fun k hk => nt_val heb hN hk
  have HYs : Hid (staB (D + 1) s = true → staB (D + 1) t = true → dfA D s t = dfL D s.2.2.2.2 t.2.2.2.2 ∧ s.2.2.2.2.length ≤ 16 ∧ t.2.2.2.2.length ≤ 16 ∧ (dfL D s.2.2.2.2 t.2.2.2.2).length ≤ 32 ∧ (∀ x ∈ dfL D s.2.2.2.2 t.2.2.2.2, x.length ≤ 60) ∧ (∀ i (h : i < s.2.2.2.2.length), goodB (D + 1) (s.2.2.2.2[i]).2.1 1 = true) ∧ (∀ i (h : i < t.2.2.2.2.length), goodB (D + 1) (t.2.2.2.2[i]).2.1 1 = true) ∧ (∀ i, i < (adrL t.2.2.2.2).length → upB (adrL t.2.2.2.2) i = true)) := fun h1 h2 => ⟨by unfold dfA; rw [if_pos ⟨h1, h2⟩], staB_len h1, staB_len h2, dfL_len h1 h2, dfL_short h1 h2, fun i hi => (mapB_good (entB_map (staB_ent h1 hi))).1, fun i hi => (mapB_good (entB_map (staB_ent h2 hi))).1, staB_up h2⟩
  have HNil : Hid (∀ w', staB (D + 1) s = false → Below w.heap.size w w' → KEnd (dfA D s t) w (.returned (.slice none 0 0)) w') := fun w' h1 h2 => by
    have : dfA D s t = [] := by
      unfold dfA
      rw [if_neg]
      rintro ⟨e1, e2⟩
      rw [h1] at e1; cases e1
    rw [this]
    exact kEnd_nil _ _ h2
  have HNil2 : Hid (∀ w', staB (D + 1) t = false → Below w.heap.size w w' → KEnd (dfA D s t) w (.returned (.slice none 0 0)) w') := fun w' h1 h2 => by
    have : dfA D s t = [] := by
      unfold dfA
      rw [if_neg]
      rintro ⟨e1, e2⟩
      rw [h1] at e2; cases e2
    rw [this]
    exact kEnd_nil _ _ h2
  have hcs : s.2.2.2.2.length ≤ 1048576 := hzs.2.1
  have hct : t.2.2.2.2.length ≤ 1048576 := hzt.2.1
  obtain ⟨s0, s1, sn, s3, sE⟩ := s
  obtain ⟨t0, t1, tn, t3, tE⟩ := t
  simp only at HSa HSb HFa HFb HAa HAb HYs HNil HNil2 hcs hct ⊢
  clear hx hy hea heb hzs hzt hA hZ hN
  generalize dfA D (s0, s1, sn, s3, sE) (t0, t1, tn, t3, tE) = A0 at *
  generalize staB (D + 1) (s0, s1, sn, s3, sE) = sb at *
  generalize staB (D + 1) (t0, t1, tn, t3, tE) = tb at *
  generalize sn.length = sl at *
  generalize tn.length = tl at *
  show Calls _ _ _ _ fun e w' => KEnd A0 w e w'
  go_enter Tryz.func20, Tryz.ntmps20
  go_wp2_with fail
  refine (HSa.out _ (HA2.out _ _)).mono ?_
  rintro e w1 ⟨rfl, b1⟩
  have HR1 := hide' (HBx.out _ _ _ b1)
  have HB1 := hide' (Below.on (HA2.out _ _) b1)
  clear b1 HSa HBx
  cases sb with
  | false =>
    have HB := hide' (HNil.out w1 rfl HB1.out)
    clear HNil HNil2 HYs
    go_wp2
    go_ret
    exact HB.out
  | true =>
  have HYs2 := hide' (HYs.out rfl)
  clear HNil HYs
  obtain ⟨g0, g1, g2, g3, g4⟩ := five_row HR1.out.2
  go_wp2_with fail
  refine (HSb.out _ HB1.out).mono ?_
  rintro e w2 ⟨rfl, b2⟩
  have HR2 := hide' (And.intro (row_on HR1.out.1 b2) (row_on HR1.out.2 b2))
  have HB2 := hide' (Below.on HB1.out b2)
  clear b2 HSb g0 g1 g2 g3 g4 HR1 HB1
  cases tb with
  | false =>
    have HB := hide' (HNil2.out w2 rfl HB2.out)
    clear HNil2 HYs2
    go_wp2
    go_ret
    exact HB.out
  | true =>
  obtain ⟨eA, hs16, ht16, hd32, hd60, hgs, hgt, hup⟩ := HYs2.out rfl
  have HEa := hide' eA
  have HD6 := hide' hd60
  have HGs := hide' hgs
  have HGt := hide' hgt
  have HUp := hide' hup
  clear HYs2 HNil2 eA hd60 hgs hgt hup
  go_wp2_with fail
  -- the first loop
  have HO0 : Hid (ouA sE (difP D tE) [] 0 = []) := ouA_zero _ _ _
  have HOl : Hid (∀ k, (ouA sE (difP D tE) [] k).length ≤ 16) := fun k => by have := ouA_len sE (difP D tE) [] k; simp at this; show _ ≤ 16; omega
  have HOy : Hid (∀ k (hk : k < sE.length), difP D tE sE[k] = true → ouA sE (difP D tE) [] (k + 1) = insN (ouA sE (difP D tE) [] k) (sE[k]).1) := fun k hk h => ouA_yes hk h
  have HOn : Hid (∀ k (hk : k < sE.length), difP D tE sE[k] = false → ouA sE (difP D tE) [] (k + 1) = ouA sE (difP D tE) [] k) := fun k hk h => ouA_no hk h
  have HDp : Hid (∀ k (hk : k < sE.length), findK (adrL tE) (sE[k]).1 < 0 → difP D tE sE[k] = true) := fun k hk h => by
    unfold difP sameE hasA
    rw [decide_eq_false (p := 0 ≤ _) (by omega)]
    rfl
  have HDq : Hid (∀ k (hk : k < sE.length) j (hj : j < tE.length), findK (adrL tE) (sE[k]).1 = (j : Int) → difP D tE sE[k] = !decide (cmpV (D + 1) (sE[k]).2.1 (tE[j]).2.1 = 0)) := fun k hk j hj h => by
    have he : entA D tE (sE[k]).1 = tE[j] := by
      unfold entA
      rw [h]
      simp [List.getD_eq_getElem?_getD, hj]
    unfold difP sameE hasA
    rw [h, he, decide_eq_true (p := (0 : Int) ≤ (j : Int)) (by omega)]
    simp
  have HFr : Hid (∀ k (hk : k < sE.length), findK (adrL tE) (sE[k]).1 < 0 ∨ ∃ j : Nat, j < tE.length ∧ findK (adrL tE) (sE[k]).1 = (j : Int)) := fun k hk => by
    have h1 := findK_range (adrL tE) (sE[k]).1
    by_cases h : findK (adrL tE) (sE[k]).1 < 0
    · exact .inl h
    · obtain ⟨j, h2, h3, _⟩ := findK_in (ks := adrL tE) (x := (sE[k]).1) (by omega)
      exact .inr ⟨j, by rw [adrL_len] at h2; exact h2, h3⟩
  have HIn : Hid (∀ wx x u ks ws base, Below w.heap.size w wx → NR N wx base x ks → TSeg (fun b => b < N) wx u ws → ks.length ≤ 1000 → Calls Tryz.prog 36 #[x, u] wx fun e w' => ∃ y, e = .returned y ∧ NR N w' wx.heap.size y (insN ks ws) ∧ Below wx.heap.size wx w') := fun wx x u ks ws base hb h1 h2 h3 => l6insert_any N base x u ks ws wx h1 h2 (HZ.out wx hb) h3
  generalize hou : ouA sE (difP D tE) [] = ou at *
  go_loopw [5, 6] (fun x i wr => ∃ k : Nat, k ≤ sE.length ∧ i = .int .i64 k ∧ (∃ base, NR N wr base x (ou k)) ∧ Below w2.heap.size w2 wr) (fun _ i _ => sE.length - (intOf i).toNat)
  case atStart => exact ⟨0, Nat.zero_le _, rfl, ⟨0, by rw [HO0.out]; exact NR.nil _ _ _⟩, Below.refl _ _⟩
  case round =>
    obtain ⟨k, hk, rfl, ⟨base, hR⟩, hbel⟩ := hrel
    obtain ⟨f0, f1, f2, f3, f4⟩ := five_row (row_on HR2.out.1 hbel)
    obtain ⟨g0, g1, g2, g3, g4⟩ := five_row (row_on HR2.out.2 hbel)
    have hbw : Below w.heap.size w wr := Below.on HB2.out hbel
    have hol := HOl.out k
    obtain ⟨pa, pc, rfl⟩ := hR.shape
    by_cases hkn : k < sE.length
    · have hkn' : (k : Int) < (sE.length : Int) := by omega
      have hk0 : (0 : Int) ≤ (k : Int) := Int.natCast_nonneg _
      obtain ⟨kb, ko, na, np, bk, bn, a2, l2, p2, a3, l3, p3, a4, l4, p4, rfl, hat⟩ := HAa.out k hkn
      obtain ⟨q0, q1, q2, q3, q4, q5, hT, hV⟩ := hat wr hbw
      have Hat := hide' hat
      have HY1 := hide' (HOy.out k hkn)
      have HN1 := hide' (HOn.out k hkn)
      have HP1 := hide' (HDp.out k hkn)
      have HQ1 := hide' (HDq.out k hkn)
      have HFk := hide' (HFr.out k hkn)
      have HGk := hide' (HGs.out k hkn)
      have HR := hide' hR
      have Hbel := hide' hbel
      have hbx3 : ∀ w3, Below wr.heap.size wr w3 → (w3.heap[w.heap.size]? = some (.cells #[.int .i64 s0, .bool s1, .slice sa sl sc, .int .i64 s3, .slice (some ⟨kb, ko, none⟩) sE.length sf] 31) ∧ w3.heap[w.heap.size + 1]? = some (.cells #[.int .i64 t0, .bool t1, .slice ta tl tc, .int .i64 t3, .slice te tE.length tf] 31)) ∧ Below w.heap.size w w3 ∧ Below w2.heap.size w2 w3 := fun w3 h => ⟨⟨row_on (row_on HR2.out.1 hbel) h, row_on (row_on HR2.out.2 hbel) h⟩, Below.on hbw h, Below.on hbel h⟩
      have HBX := hide' hbx3
      have HI0 : ∀ w3, Below wr.heap.size wr w3 → Calls Tryz.prog 36 #[.slice pa (ou k).length pc, .slice na (sE[k]).1.length np] w3 fun e w' => ∃ ya yn yc, e = .returned (.slice ya yn yc) ∧ Hid (NR N w' w3.heap.size (.slice ya yn yc) (insN (ou k) (sE[k]).1)) ∧ Hid (Below w2.heap.size w2 w') := fun w3 hb3 => by
        refine (HIn.out w3 _ _ (ou k) (sE[k]).1 base (Below.on hbw hb3) (hR.below hb3 (HZ.out wr hbw)) (hat _ (Below.on hbw hb3)).2.2.2.2.2.2.1 (by omega)).mono ?_
        rintro e w' ⟨y, rfl, h1, h2⟩
        obtain ⟨ya, yc, rfl⟩ := h1.shape
        exact ⟨_, _, _, rfl, h1, Below.on (Below.on hbel hb3) h2⟩
      have HI := hide' HI0
      have HF : Hid (Calls Tryz.prog 34 #[.agg #[.int .i64 t0, .bool t1, .slice ta tl tc, .int .i64 t3, .slice te tE.length tf], .slice na (sE[k]).1.length np] wr.drew fun e w3 => e = .returned (.int .i64 (findK (adrL tE) (sE[k]).1)) ∧ (w3.cell? ⟨w.heap.size + 1, 0, none⟩ = some (.int .i64 t0) ∧ w3.cell? ⟨w.heap.size + 1, 1, none⟩ = some (.bool t1) ∧ w3.cell? ⟨w.heap.size + 1, 2, none⟩ = some (.slice ta tl tc) ∧ w3.cell? ⟨w.heap.size + 1, 3, none⟩ = some (.int .i64 t3) ∧ w3.cell? ⟨w.heap.size + 1, 4, none⟩ = some (.slice te tE.length tf) ∧ w3.cell? ⟨w.heap.size, 4, none⟩ = some (.slice (some ⟨kb, ko, none⟩) sE.length sf) ∧ w3.cell? ⟨kb, ko + k * 9, none⟩ = some (.slice na (sE[k]).1.length np)) ∧ Hid (Below wr.heap.size wr w3)) := by
        refine (HFb.out wr.drew na np (sE[k]).1 (hbw.drew) hT).mono ?_
        rintro e w3 ⟨rfl, h3⟩
        have hb3 : Below wr.heap.size wr w3 := Below.on (Below.refl _ wr).drew h3
        obtain ⟨⟨r1, r2⟩, h4, -⟩ := hbx3 w3 hb3
        obtain ⟨i0, i1, i2, i3, i4⟩ := five_row r2
        obtain ⟨-, -, -, -, j4⟩ := five_row r1
        exact ⟨rfl, ⟨i0, i1, i2, i3, i4, j4, (hat w3 h4).1⟩, hb3⟩
      rcases HFk.out with hneg | ⟨j, hj, hfj⟩
      · have HE : Hid (ou (k + 1) = insN (ou k) (sE[k]).1) := HY1.out (HP1.out hneg)
        generalize hnk : (sE[k]).1.length = nk at *
        generalize (sE[k]).1 = sk at *
        generalize findK (adrL tE) sk = fi at *
        generalize hok : (ou k).length = ol at *
        clear hR hbel hbw hT hV hat hnk HFr HDp HDq HOy HOn hbx3 HI0 HFk HGk HY1 HN1 HP1 HQ1 hok Hat
        go_wp2_with fail
        go_region_held3 (fun wx => wx.cell? ⟨w.heap.size + 1, 0, none⟩ = some (.int .i64 t0) ∧ wx.cell? ⟨w.heap.size + 1, 1, none⟩ = some (.bool t1) ∧ wx.cell? ⟨w.heap.size + 1, 2, none⟩ = some (.slice ta tl tc) ∧ wx.cell? ⟨w.heap.size + 1, 3, none⟩ = some (.int .i64 t3) ∧ wx.cell? ⟨w.heap.size + 1, 4, none⟩ = some (.slice te tE.length tf) ∧ wx.cell? ⟨w.heap.size, 4, none⟩ = some (.slice (some ⟨kb, ko, none⟩) sE.length sf) ∧ wx.cell? ⟨kb, ko + k * 9, none⟩ = some (.slice na nk np)) (go_keep) (first
          | (go_at_call 34; refine HF.out.mono ?_; rintro e w3 ⟨rfl, ⟨i0, i1, i2, i3, i4, i5, i6⟩, hb3⟩))
        obtain ⟨⟨hr3, hr3'⟩, -, -⟩ := HBX.out _ hb3.out
        have hb3x := hb3.out
        have q0' := i6
        clear i0 i1 i2 i3 i4 i5 i6 hb3
        clear f0 f1 f2 f3 f4 g0 g1 g2 g3 g4 q0 q1 q2 q3 q4 q5 HF
        obtain ⟨f0, f1, f2, f3, f4⟩ := five_row hr3
        have HI3 : Hid (∀ n, Calls Tryz.prog 36 #[.slice pa ol pc, .slice na nk np] (w3.drewN n) fun e w' => ∃ ya yn yc, e = .returned (.slice ya yn yc) ∧ Hid (NR N w' (w3.drewN n).heap.size (.slice ya yn yc) (insN (ou k) sk)) ∧ Hid (Below w2.heap.size w2 w')) := fun n => HI.out _ (below_drewN hb3x n)
        clear HI hr3 hr3' hb3x HBX
        go_wp2_with fail
        go_quiet (fail)
        go_wp2_with fail
        refine (HI3.out nq).mono ?_
        rintro e w4 ⟨ya, yn, yc, rfl, hR4, hB4⟩
        clear HI3 f0 f1 f2 f3 f4 q0'
        go_wp2
        go_roundw
        case rel => exact ⟨k + 1, by omega, by go_num, ⟨_, by rw [HE.out]; exact hR4.out⟩, hB4.out⟩
        case measure => simp [intOf]; omega
      · have hQ := HQ1.out j hj hfj
        rw [hfj] at HF
        obtain ⟨mb, mo, nb, nq', ek, en, b2, m2, r2, b3', m3, r3', b4', m4, r4', rfl, hatb⟩ := HAb.out j hj
        have Hatb := hide' hatb
        have hgj := HGt.out j hj
        have hgk := HGk.out
        have hj0 : (0 : Int) ≤ (j : Int) := Int.natCast_nonneg _
        have hjl : (j : Int) < (tE.length : Int) := by omega
        have hjn : ¬ ((j : Nat) : Int) < 0 := by omega
        have hjd : decide (((j : Nat) : Int) < 0) = false := decide_eq_false hjn
        have HC : Hid (∀ w3, Below wr.heap.size wr w3 → Calls Tryz.prog 35 #[.agg #[.int .i64 bk, .int .i64 bn, .slice a2 l2 p2, .slice a3 l3 p3, .slice a4 l4 p4], .agg #[.int .i64 ek, .int .i64 en, .slice b2 m2 r2, .slice b3' m3 r3', .slice b4' m4 r4']] w3.drew fun e w4 => e = .returned (.int .i64 (cmpV (D + 1) (sE[k]).2.1 (tE[j]).2.1)) ∧ (w4.cell? ⟨w.heap.size, 4, none⟩ = some (.slice (some ⟨kb, ko, none⟩) sE.length sf) ∧ w4.cell? ⟨w.heap.size + 1, 4, none⟩ = some (.slice (some ⟨mb, mo, none⟩) tE.length tf) ∧ w4.cell? ⟨kb, ko + k * 9 + 1, none⟩ = some (.int .i64 bk) ∧ w4.cell? ⟨kb, ko + k * 9 + 2, none⟩ = some (.int .i64 bn) ∧ w4.cell? ⟨kb, ko + k * 9 + 3, none⟩ = some (.slice a2 l2 p2) ∧ w4.cell? ⟨kb, ko + k * 9 + 4, none⟩ = some (.slice a3 l3 p3) ∧ w4.cell? ⟨kb, ko + k * 9 + 5, none⟩ = some (.slice a4 l4 p4) ∧ w4.cell? ⟨mb, mo + j * 9 + 1, none⟩ = some (.int .i64 ek) ∧ w4.cell? ⟨mb, mo + j * 9 + 2, none⟩ = some (.int .i64 en) ∧ w4.cell? ⟨mb, mo + j * 9 + 3, none⟩ = some (.slice b2 m2 r2) ∧ w4.cell? ⟨mb, mo + j * 9 + 4, none⟩ = some (.slice b3' m3 r3') ∧ w4.cell? ⟨mb, mo + j * 9 + 5, none⟩ = some (.slice b4' m4 r4')) ∧ Hid (Below wr.heap.size wr w4)) := fun w3 h3 => by
          have h3d : Below wr.heap.size wr w3.drew := h3.drew
          have h3w : Below w.heap.size w w3.drew := Below.on hbw h3d
          refine (l2cmp_any (D + 1) N (.int .i64 bk, .int .i64 bn, .slice a2 l2 p2, .slice a3 l3 p3, .slice a4 l4 p4) (.int .i64 ek, .int .i64 en, .slice b2 m2 r2, .slice b3' m3 r3', .slice b4' m4 r4') _ _ 1 1 w3.drew (hat _ h3w).2.2.2.2.2.2.2 (hatb _ h3w).2.2.2.2.2.2.2 (HZ.out _ h3w) hgk hgj).mono ?_
          rintro e w4 ⟨rfl, h4⟩
          have hb4 : Below wr.heap.size wr w4 := Below.on h3d h4
          obtain ⟨⟨r1, r2⟩, h5, -⟩ := hbx3 w4 hb4
          obtain ⟨-, -, -, -, i4⟩ := five_row r2
          obtain ⟨-, -, -, -, j4⟩ := five_row r1
          obtain ⟨-, x1, x2, x3, x4, x5, -⟩ := hat w4 h5
          obtain ⟨-, y1, y2, y3, y4, y5, -⟩ := hatb w4 h5
          exact ⟨rfl, ⟨j4, i4, x1, x2, x3, x4, x5, y1, y2, y3, y4, y5⟩, hb4⟩
        have HCl : Hid (∀ w3, Below wr.heap.size wr w3 → (w3.cell? ⟨w.heap.size, 4, none⟩ = some (.slice (some ⟨kb, ko, none⟩) sE.length sf) ∧ w3.cell? ⟨w.heap.size + 1, 4, none⟩ = some (.slice (some ⟨mb, mo, none⟩) tE.length tf) ∧ w3.cell? ⟨kb, ko + k * 9 + 1, none⟩ = some (.int .i64 bk) ∧ w3.cell? ⟨kb, ko + k * 9 + 2, none⟩ = some (.int .i64 bn) ∧ w3.cell? ⟨kb, ko + k * 9 + 3, none⟩ = some (.slice a2 l2 p2) ∧ w3.cell? ⟨kb, ko + k * 9 + 4, none⟩ = some (.slice a3 l3 p3) ∧ w3.cell? ⟨kb, ko + k * 9 + 5, none⟩ = some (.slice a4 l4 p4) ∧ w3.cell? ⟨mb, mo + j * 9 + 1, none⟩ = some (.int .i64 ek) ∧ w3.cell? ⟨mb, mo + j * 9 + 2, none⟩ = some (.int .i64 en) ∧ w3.cell? ⟨mb, mo + j * 9 + 3, none⟩ = some (.slice b2 m2 r2) ∧ w3.cell? ⟨mb, mo + j * 9 + 4, none⟩ = some (.slice b3' m3 r3') ∧ w3.cell? ⟨mb, mo + j * 9 + 5, none⟩ = some (.slice b4' m4 r4')) ∧ w3.cell? ⟨kb, ko + k * 9, none⟩ = some (.slice na (sE[k]).1.length np)) := fun w3 h3 => by
          obtain ⟨⟨r1, r2⟩, h5, -⟩ := hbx3 w3 h3
          obtain ⟨-, -, -, -, i4⟩ := five_row r2
          obtain ⟨-, -, -, -, j4⟩ := five_row r1
          obtain ⟨x0, x1, x2, x3, x4, x5, -⟩ := hat w3 h5
          obtain ⟨-, y1, y2, y3, y4, y5, -⟩ := hatb w3 h5
          exact ⟨⟨j4, i4, x1, x2, x3, x4, x5, y1, y2, y3, y4, y5⟩, x0⟩
        have HE1 : Hid (difP D (tE) sE[k] = true → ou (k + 1) = insN (ou k) (sE[k]).1) := HY1.out
        have HE2 : Hid (difP D (tE) sE[k] = false → ou (k + 1) = ou k) := HN1.out
        have HNo : Hid (∀ w3, Below wr.heap.size wr w3 → (∃ base, NR N w3 base (.slice pa (ou k).length pc) (ou k)) ∧ Below w2.heap.size w2 w3) := fun w3 h3 => ⟨⟨base, hR.below h3 (HZ.out wr hbw)⟩, Below.on hbel h3⟩
        have HQ := hide' hQ
        generalize difP D tE sE[k] = dp at *
        generalize hcv : cmpV (D + 1) (sE[k]).2.1 (tE[j]).2.1 = cv at *
        generalize hnk : (sE[k]).1.length = nk at *
        generalize (sE[k]).1 = sk at *
        generalize hok : (ou k).length = ol at *
        clear hR hbel hbw hT hV hat hnk HFr HDp HDq HOy HOn hbx3 HI0 HFk HGk HY1 HN1 HP1 HQ1 hok Hat hatb Hatb hgj hgk hQ hcv hfj
        go_wp2_with fail
        go_region_held3 (fun wx => wx.cell? ⟨w.heap.size + 1, 0, none⟩ = some (.int .i64 t0) ∧ wx.cell? ⟨w.heap.size + 1, 1, none⟩ = some (.bool t1) ∧ wx.cell? ⟨w.heap.size + 1, 2, none⟩ = some (.slice ta tl tc) ∧ wx.cell? ⟨w.heap.size + 1, 3, none⟩ = some (.int .i64 t3) ∧ wx.cell? ⟨w.heap.size + 1, 4, none⟩ = some (.slice (some ⟨mb, mo, none⟩) tE.length tf) ∧ wx.cell? ⟨w.heap.size, 4, none⟩ = some (.slice (some ⟨kb, ko, none⟩) sE.length sf) ∧ wx.cell? ⟨kb, ko + k * 9, none⟩ = some (.slice na nk np)) (go_keep) (first
          | (go_at_call 34; refine HF.out.mono ?_; rintro e w3 ⟨rfl, ⟨i0, i1, i2, i3, i4, i5, i6⟩, hb3⟩))
        obtain ⟨⟨j4, i4', x1, x2, x3, x4, x5, y1, y2, y3, y4, y5⟩, x0⟩ := HCl.out _ hb3.out
        have HC3 := hide' (HC.out _ hb3.out)
        clear f0 f1 f2 f3 f4 g0 g1 g2 g3 g4 q0 q1 q2 q3 q4 q5 HF i0 i1 i2 i3 i4 i5 i6 HC
        go_wp2_with fail
        go_region_held3 (fun wx => wx.cell? ⟨w.heap.size, 4, none⟩ = some (.slice (some ⟨kb, ko, none⟩) sE.length sf) ∧ wx.cell? ⟨w.heap.size + 1, 4, none⟩ = some (.slice (some ⟨mb, mo, none⟩) tE.length tf) ∧ wx.cell? ⟨kb, ko + k * 9 + 1, none⟩ = some (.int .i64 bk) ∧ wx.cell? ⟨kb, ko + k * 9 + 2, none⟩ = some (.int .i64 bn) ∧ wx.cell? ⟨kb, ko + k * 9 + 3, none⟩ = some (.slice a2 l2 p2) ∧ wx.cell? ⟨kb, ko + k * 9 + 4, none⟩ = some (.slice a3 l3 p3) ∧ wx.cell? ⟨kb, ko + k * 9 + 5, none⟩ = some (.slice a4 l4 p4) ∧ wx.cell? ⟨mb, mo + j * 9 + 1, none⟩ = some (.int .i64 ek) ∧ wx.cell? ⟨mb, mo + j * 9 + 2, none⟩ = some (.int .i64 en) ∧ wx.cell? ⟨mb, mo + j * 9 + 3, none⟩ = some (.slice b2 m2 r2) ∧ wx.cell? ⟨mb, mo + j * 9 + 4, none⟩ = some (.slice b3' m3 r3') ∧ wx.cell? ⟨mb, mo + j * 9 + 5, none⟩ = some (.slice b4' m4 r4')) (go_keep) (first
          | (go_at_call 35; refine HC3.out.mono ?_; rintro e w4 ⟨rfl, ⟨z0, z1, z2, z3, z4, z5, z6, z7, z8, z9, z10, z11⟩, hb4⟩))
        obtain ⟨⟨f4, -⟩, q0'⟩ := HCl.out _ hb4.out
        have HI4 := hide' (HI.out _ hb4.out)
        have HN4 := hide' (HNo.out _ hb4.out)
        clear j4 i4' x0 x1 x2 x3 x4 x5 y1 y2 y3 y4 y5 z0 z1 z2 z3 z4 z5 z6 z7 z8 z9 z10 z11 HC3 HI HNo HCl hb3 hb4
        by_cases hc0 : cv = 0
        · have hE := HE2.out (by rw [HQ.out, decide_eq_true hc0]; rfl)
          have HE := hide' hE
          clear HE1 HE2 HQ hE HI4
          subst hc0
          go_wp2
          go_roundw
          case rel => exact ⟨k + 1, by omega, by go_num, by rw [HE.out]; exact HN4.out.1, HN4.out.2⟩
          case measure => simp [intOf]; omega
        · have hE := HE1.out (by rw [HQ.out, decide_eq_false hc0]; rfl)
          have HE := hide' hE
          have hcb : (cv != 0) = true := by simp [hc0]
          clear HE1 HE2 HQ hE
          go_wp2_with fail
          refine HI4.out.mono ?_
          rintro e w5 ⟨ya, yn, yc, rfl, hR4, hB4⟩
          clear HI4 f4 q0'
          go_wp2
          go_roundw
          case rel => exact ⟨k + 1, by omega, by go_num, ⟨_, by rw [HE.out]; exact hR4.out⟩, hB4.out⟩
          case measure => simp [intOf]; omega
    · have hkn' : k = sE.length := by omega
      subst hkn'
      have hlt' : ¬ (sE.length : Int) < (sE.length : Int) := by omega
      have HR0 := hide' (And.intro hR hbel)
      obtain ⟨wA, hwA⟩ : ∃ wA, wA = wr := ⟨_, rfl⟩
      subst hwA
      have HP0 : Hid (ouA tE (newP D sE) (ou sE.length) 0 = ou sE.length) := ouA_zero _ _ _
      have HPl : Hid (∀ k, (ouA tE (newP D sE) (ou sE.length) k).length ≤ 32) := fun k => by have h1 := ouA_len tE (newP D sE) (ou sE.length) k; show _ ≤ 32; omega
      have HPy : Hid (∀ k (hk : k < tE.length), newP D sE tE[k] = true → ouA tE (newP D sE) (ou sE.length) (k + 1) = insN (ouA tE (newP D sE) (ou sE.length) k) (tE[k]).1) := fun k hk h => ouA_yes hk h
      have HPn : Hid (∀ k (hk : k < tE.length), newP D sE tE[k] = false → ouA tE (newP D sE) (ou sE.length) (k + 1) = ouA tE (newP D sE) (ou sE.length) k) := fun k hk h => ouA_no hk h
      have HNp : Hid (∀ k (hk : k < tE.length), (findK (adrL sE) (tE[k]).1 < 0 → newP D sE tE[k] = true) ∧ (¬ findK (adrL sE) (tE[k]).1 < 0 → newP D sE tE[k] = false)) := fun k hk => by
        unfold newP hasA
        refine ⟨fun h => ?_, fun h => ?_⟩
        · rw [decide_eq_false (by omega)]; rfl
        · rw [decide_eq_true (by omega)]; rfl
      have HPe : Hid (ouA tE (newP D sE) (ou sE.length) tE.length = dfL D sE tE) := by rw [← hou]; exact ouA_end D sE tE
      clear hou
      generalize ouA tE (newP D sE) (ou sE.length) = ob at *
      clear hR hbel hbw HAa HFr HDp HDq HOy HOn HO0 HOl HFb HGs HGt HUp
      go_wp2_with fail
      go_loopw [5, 8] (fun x i wr => ∃ k : Nat, k ≤ tE.length ∧ i = .int .i64 k ∧ (∃ base, NR N wr base x (ob k)) ∧ Below w2.heap.size w2 wr) (fun _ i _ => tE.length - (intOf i).toNat)
      case atStart => exact ⟨0, Nat.zero_le _, rfl, ⟨_, by rw [HP0.out]; exact HR0.out.1⟩, HR0.out.2⟩
      case round =>
        clear HR0 f0 f1 f2 f3 f4 g0 g1 g2 g3 g4
        obtain ⟨k, hk, rfl, ⟨base, hR⟩, hbel⟩ := hrel
        obtain ⟨f0, f1, f2, f3, f4⟩ := five_row (row_on HR2.out.1 hbel)
        obtain ⟨g0, g1, g2, g3, g4⟩ := five_row (row_on HR2.out.2 hbel)
        have hbw : Below w.heap.size w wr := Below.on HB2.out hbel
        have hol := HPl.out k
        obtain ⟨pa, pc, rfl⟩ := hR.shape
        by_cases hkn : k < tE.length
        · have hkn' : (k : Int) < (tE.length : Int) := by omega
          have hk0 : (0 : Int) ≤ (k : Int) := Int.natCast_nonneg _
          obtain ⟨kb, ko, na, np, _, _, _, _, _, _, _, _, _, _, _, rfl, hat⟩ := HAb.out k hkn
          obtain ⟨q0, -, -, -, -, -, hT, -⟩ := hat wr hbw
          have HY1 := hide' (HPy.out k hkn)
          have HN1 := hide' (HPn.out k hkn)
          have HP1 := hide' (HNp.out k hkn)
          have hbx3 : ∀ w3, Below wr.heap.size wr w3 → (w3.heap[w.heap.size]? = some (.cells #[.int .i64 s0, .bool s1, .slice sa sl sc, .int .i64 s3, .slice se sE.length sf] 31) ∧ w3.heap[w.heap.size + 1]? = some (.cells #[.int .i64 t0, .bool t1, .slice ta tl tc, .int .i64 t3, .slice (some ⟨kb, ko, none⟩) tE.length tf] 31)) ∧ Below w.heap.size w w3 ∧ Below w2.heap.size w2 w3 := fun w3 h => ⟨⟨row_on (row_on HR2.out.1 hbel) h, row_on (row_on HR2.out.2 hbel) h⟩, Below.on hbw h, Below.on hbel h⟩
          have HBX := hide' hbx3
          have HI : Hid (∀ w3, Below wr.heap.size wr w3 → Calls Tryz.prog 36 #[.slice pa (ob k).length pc, .slice na (tE[k]).1.length np] w3 fun e w' => ∃ ya yn yc, e = .returned (.slice ya yn yc) ∧ Hid (NR N w' w3.heap.size (.slice ya yn yc) (insN (ob k) (tE[k]).1)) ∧ Hid (Below w2.heap.size w2 w')) := fun w3 hb3 => by
            refine (HIn.out w3 _ _ (ob k) (tE[k]).1 base (Below.on hbw hb3) (hR.below hb3 (HZ.out wr hbw)) (hat _ (Below.on hbw hb3)).2.2.2.2.2.2.1 (by omega)).mono ?_
            rintro e w' ⟨y, rfl, h1, h2⟩
            obtain ⟨ya, yc, rfl⟩ := h1.shape
            exact ⟨_, _, _, rfl, h1, Below.on (Below.on hbel hb3) h2⟩
          have HNo : Hid (∀ w3, Below wr.heap.size wr w3 → (∃ base, NR N w3 base (.slice pa (ob k).length pc) (ob k)) ∧ Below w2.heap.size w2 w3) := fun w3 h3 => ⟨⟨base, hR.below h3 (HZ.out wr hbw)⟩, Below.on hbel h3⟩
          have HF : Hid (Calls Tryz.prog 34 #[.agg #[.int .i64 s0, .bool s1, .slice sa sl sc, .int .i64 s3, .slice se sE.length sf], .slice na (tE[k]).1.length np] wr.drew fun e w3 => e = .returned (.int .i64 (findK (adrL sE) (tE[k]).1)) ∧ (w3.cell? ⟨w.heap.size, 0, none⟩ = some (.int .i64 s0) ∧ w3.cell? ⟨w.heap.size, 1, none⟩ = some (.bool s1) ∧ w3.cell? ⟨w.heap.size, 2, none⟩ = some (.slice sa sl sc) ∧ w3.cell? ⟨w.heap.size, 3, none⟩ = some (.int .i64 s3) ∧ w3.cell? ⟨w.heap.size, 4, none⟩ = some (.slice se sE.length sf) ∧ w3.cell? ⟨w.heap.size + 1, 4, none⟩ = some (.slice (some ⟨kb, ko, none⟩) tE.length tf) ∧ w3.cell? ⟨kb, ko + k * 9, none⟩ = some (.slice na (tE[k]).1.length np)) ∧ Hid (Below wr.heap.size wr w3)) := by
            refine (HFa.out wr.drew na np (tE[k]).1 (hbw.drew) hT).mono ?_
            rintro e w3 ⟨rfl, h3⟩
            have hb3 : Below wr.heap.size wr w3 := Below.on (Below.refl _ wr).drew h3
            obtain ⟨⟨r1, r2⟩, h4, -⟩ := hbx3 w3 hb3
            obtain ⟨i0, i1, i2, i3, i4⟩ := five_row r1
            obtain ⟨-, -, -, -, j4⟩ := five_row r2
            exact ⟨rfl, ⟨i0, i1, i2, i3, i4, j4, (hat w3 h4).1⟩, hb3⟩
          generalize newP D sE tE[k] = dp at *
          generalize hnk : (tE[k]).1.length = nk at *
          generalize (tE[k]).1 = sk at *
          generalize findK (adrL sE) sk = fi at *
          generalize hok : (ob k).length = ol at *
          clear hR hbel hbw hT hat hnk hbx3 hok
          go_wp2_with fail
          go_region_held3 (fun wx => wx.cell? ⟨w.heap.size, 0, none⟩ = some (.int .i64 s0) ∧ wx.cell? ⟨w.heap.size, 1, none⟩ = some (.bool s1) ∧ wx.cell? ⟨w.heap.size, 2, none⟩ = some (.slice sa sl sc) ∧ wx.cell? ⟨w.heap.size, 3, none⟩ = some (.int .i64 s3) ∧ wx.cell? ⟨w.heap.size, 4, none⟩ = some (.slice se sE.length sf) ∧ wx.cell? ⟨w.heap.size + 1, 4, none⟩ = some (.slice (some ⟨kb, ko, none⟩) tE.length tf) ∧ wx.cell? ⟨kb, ko + k * 9, none⟩ = some (.slice na nk np)) (go_keep) (first
            | (go_at_call 34; refine HF.out.mono ?_; rintro e w3 ⟨rfl, ⟨i0, i1, i2, i3, i4, i5, i6⟩, hb3⟩))
          obtain ⟨⟨-, hr3⟩, -, -⟩ := HBX.out _ hb3.out
          have q0' := i6
          have HI4 := hide' (HI.out _ hb3.out)
          have HN4 := hide' (HNo.out _ hb3.out)
          clear f0 f1 f2 f3 f4 g0 g1 g2 g3 g4 q0 HF i0 i1 i2 i3 i4 i5 i6 HI HNo HBX hb3
          obtain ⟨g0, g1, g2, g3, g4⟩ := five_row hr3
          by_cases hneg : fi < 0
          · have HE : Hid (ob (k + 1) = insN (ob k) sk) := HY1.out (HP1.out.1 hneg)
            clear HY1 HN1 HP1 hr3
            go_wp2_with fail
            refine HI4.out.mono ?_
            rintro e w5 ⟨ya, yn, yc, rfl, hR4, hB4⟩
            clear HI4 g0 g1 g2 g3 g4 q0'
            go_wp2
            go_roundw
            case rel => exact ⟨k + 1, by omega, by go_num, ⟨_, by rw [HE.out]; exact hR4.out⟩, hB4.out⟩
            case measure => simp [intOf]; omega
          · have HE : Hid (ob (k + 1) = ob k) := HN1.out (HP1.out.2 (by omega))
            clear HY1 HN1 HP1 hr3 HI4
            go_wp2
            go_roundw
            case rel => exact ⟨k + 1, by omega, by go_num, by rw [HE.out]; exact HN4.out.1, HN4.out.2⟩
            case measure => simp [intOf]; omega
        · have hkn' : k = tE.length := by omega
          subst hkn'
          have hlt2' : ¬ (tE.length : Int) < (tE.length : Int) := by omega
          rw [HPe.out] at hR hol
          rw [HPe.out]
          have HOw : Hid (Calls Tryz.prog 37 #[.slice pa (dfL D sE tE).length pc] wr fun e w' => ∃ u, e = .returned u ∧ ∃ B, KOwn w' u (dfL D sE tE) B ∧ (∀ b ∈ B, wr.heap.size ≤ b ∧ b < w'.heap.size) ∧ Below wr.heap.size wr w') := l4ownAddrs_any N base _ _ wr hR (HZ.out wr hbw) (by omega) (fun i hi => by
            have := HD6.out ((dfL D sE tE).getD i []) (by rw [List.getD_eq_getElem?_getD, List.getElem?_eq_getElem hi]; exact List.getElem_mem _)
            omega)
          have Hbw := hide' hbw
          clear hR hbel hbw
          generalize dfL D sE tE = A1 at *
          go_wp2_with fail
          refine HOw.out.mono ?_
          rintro e w5 ⟨u, rfl, B, hO, hB, b5⟩
          have HF : Hid (KEnd A0 w (.returned u) w5) := ⟨u, rfl, B, by rw [HEa.out]; exact hO, fun b hb => by have h1 := hB b hb; have h2 := Hbw.out.size; omega, Below.on Hbw.out b5⟩
          obtain ⟨ua, un, uc, rfl⟩ := hO.form
          clear hO hB b5 HOw
          go_wp2
          go_ret
          exact HF.out
end Go.Proofs.YtngjhimieacjhaaGreatDoor
