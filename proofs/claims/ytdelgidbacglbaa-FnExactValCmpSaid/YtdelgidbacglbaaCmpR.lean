/-
  cmpFields, slices.CompareFunc over fields, cmpParts at lists and maps; cmpParts at every depth.
-/
import Derived.Test.YtdelgidbacglbaaCmpQ
import Derived.Test.YtdelgidbacglbaaTake3
namespace Go.Proofs.Ytdelgidbacglbaa
open Go.RowKit
set_option linter.unusedVariables false
set_option linter.unusedSimpArgs false

/-- The order of two fields. -/
def fldC (d : Nat) (ka kb : List Int) (a b : Vl d) : Int := if bytesC ka kb ≠ 0 then bytesC ka kb else cmpV d a b

set_option maxHeartbeats 3200000 in
theorem cmpFields_any (d : Nat) (ih : CmpAt d) (N : Nat) (ka kb : List Int) (t1 t2 : TypeId) (x1 x2 : Value) (a b : Vl d) (deep deep' : Nat) (w : World) (hp : PSeg (fun b => b < N) w d (.iface t1 x1) a) (hq : PSeg (fun b => b < N) w d (.iface t2 x2) b) (hN : N ≤ w.heap.size) (ga : goodB d a deep = true) (gb : goodB d b deep' = true) (na : partsV d a ≤ 40) (nb : partsV d b ≤ 40) :
    Calls Try.prog 31 #[.agg #[.string (strOf ka), .iface t1 x1], .agg #[.string (strOf kb), .iface t2 x2]] w fun e w' => e = .returned (.int .i64 (fldC d ka kb a b)) ∧ Below w.heap.size w w' := by
  have Hb2 : Hid (∀ o o' : Obj, Below w.heap.size w ((w.alloc o).alloc o')) := fun o o' => ((Below.refl _ _).alloc (Nat.le_refl _) o).alloc (by simp) o'
  have HS := hide' (strings_Compare_any ka kb)
  have HE : Hid (∀ o o' : Obj, Calls Try.prog 18 #[.iface t1 x1, .iface t2 x2] ((w.alloc o).alloc o') fun e w' => e = .returned (.int .i64 (cmpV d a b)) ∧ Below w.heap.size w w') := by
    intro o o'
    have ag := agree_below ((Hb2.out o o').mono hN)
    refine (ih N _ _ a b deep deep' _ (PSeg.carry (fun b hb => hb) ag d hp) (PSeg.carry (fun b hb => hb) ag d hq) (by have := (Hb2.out o o').size; omega) ga gb na nb).mono fun e w' h => ⟨h.1, Below.on (Hb2.out o o') h.2⟩
  by_cases hbc : bytesC ka kb = 0
  · have HO : Hid (fldC d ka kb a b = cmpV d a b) := by show fldC d ka kb a b = _; simp [fldC, hbc]
    rw [hbc] at HS
    generalize cmpV d a b = cv at *
    generalize fldC d ka kb a b = ans at *
    generalize strOf ka = sa at *
    generalize strOf kb = sb at *
    clear hbc hp hq
    go_enter Try.func31, Try.ntmps31
    go_wp2_with fail
    refine (HS.out _).mono ?_
    rintro e w1 ⟨rfl, e1⟩
    obtain rfl := e1
    go_wp2_with fail
    refine (HE.out _ _).mono ?_
    rintro e w2 ⟨rfl, B2⟩
    go_wp2
    go_ret
    exact ⟨ret_i64 (by rw [HO.out]), B2⟩
  · have HO : Hid (fldC d ka kb a b = bytesC ka kb) := by show fldC d ka kb a b = _; simp [fldC, hbc]
    have hbc' : (bytesC ka kb != 0) = true := by simp [hbc]
    generalize bytesC ka kb = bc at *
    generalize fldC d ka kb a b = ans at *
    generalize strOf ka = sa at *
    generalize strOf kb = sb at *
    clear hp hq HE
    go_enter Try.func31, Try.ntmps31
    go_wp2_with fail
    refine (HS.out _).mono ?_
    rintro e w1 ⟨rfl, e1⟩
    obtain rfl := e1
    go_wp2
    go_ret
    exact ⟨ret_i64 (by rw [HO.out]), Hb2.out _ _⟩

theorem cmpK_fld {d : Nat} {aK bK : List (List Int)} {aL bL : List (Vl d)} {k : Nat} (ha : k < aL.length) (hb : k < bL.length) : cmpK true aK bK aL bL k = if fldC d (aK.getD k []) (bK.getD k []) aL[k] bL[k] ≠ 0 then fldC d (aK.getD k []) (bK.getD k []) aL[k] bL[k] else cmpK true aK bK aL bL (k + 1) := by
  rw [cmpK_step ha hb]
  unfold fldC
  generalize bytesC (aK.getD k []) (bK.getD k []) = bc
  by_cases h : bc = 0
  · simp [h]
  · simp [h]

/-- A row of fields, read place by place. -/
theorem FRow.at {w : World} {a : Option Addr} {n c : Nat} {vK : List (List Int)} {ps : List Value} {n' : Nat} (h : FRow w (.slice a n c) vK ps n') {k : Nat} (hk : k < n') : ∃ g, a = some ⟨g, 0, none⟩ ∧ g < w.heap.size ∧ w.cell? ⟨g, k * 2, none⟩ = some (.string (strOf (vK.getD k []))) ∧ w.cell? ⟨g, k * 2 + 1, none⟩ = some (ps.getD k .nilIface) := by
  obtain ⟨a', c', e, _, _, hc⟩ := h
  simp only [Value.slice.injEq] at e
  obtain ⟨rfl, _, _⟩ := e
  rcases hc with h0 | ⟨g, rfl, hg, hc⟩
  · omega
  · exact ⟨g, rfl, hg, (hc k hk).1, (hc k hk).2⟩

theorem FRow.grow {w w' : World} {u : Value} {vK : List (List Int)} {ps : List Value} {n : Nat} (h : FRow w u vK ps n) (hb : Below w.heap.size w w') : FRow w' u vK ps n := by
  obtain ⟨a, c, e, h1, h2, hc⟩ := h
  refine ⟨a, c, e, h1, h2, ?_⟩
  rcases hc with h0 | ⟨g, rfl, hg, hc⟩
  · exact .inl h0
  · exact .inr ⟨g, rfl, Nat.lt_of_lt_of_le hg hb.size, fun i hi => ⟨(World.cell?_of_block (hb.block g hg)).trans (hc i hi).1, (World.cell?_of_block (hb.block g hg)).trans (hc i hi).2⟩⟩

set_option maxHeartbeats 3200000 in
theorem cmpFuncF_any (d : Nat) (ih : CmpAt d) (N : Nat) (x y : Value) (l m : List (Vl d)) (aK bK : List (List Int)) (ps qs : List Value) (deep deep' : Nat) (w : World) (hx : FRow w x aK ps l.length) (hy : FRow w y bK qs m.length) (hN : N ≤ w.heap.size)
    (hps : ∀ k (h : k < l.length), PSeg (fun b => b < N) w d (ps.getD k .nilIface) l[k]) (hqs : ∀ k (h : k < m.length), PSeg (fun b => b < N) w d (qs.getD k .nilIface) m[k])
    (gl : ∀ k (h : k < l.length), goodB d l[k] deep = true ∧ partsV d l[k] ≤ 40) (gm : ∀ k (h : k < m.length), goodB d m[k] deep' = true ∧ partsV d m[k] ≤ 40) (hl40 : l.length ≤ 40) (hm40 : m.length ≤ 40) :
    Calls Try.prog 29 #[x, y, .func (.func 31) #[] #[]] w fun e w' => e = .returned (.int .i64 (cmpK true aK bK l m 0)) ∧ Below w.heap.size w w' := by
  have HC := hide' hx
  have HC' := hide' hy
  obtain ⟨a, cap, rfl, _, _, hc⟩ := hx
  obtain ⟨a', cap', rfl, _, _, hc'⟩ := hy
  have HI := hide' ih
  have HA := hide' gl
  have HA' := hide' gm
  have HPs := hide' hps
  have HQs := hide' hqs
  generalize hans : cmpK true aK bK l m 0 = ans
  have HO : Hid (ans = cmpK true aK bK l m 0) := hans.symm
  clear hc hc' gl gm ih hans hps hqs
  go_enter Try.func29, Try.ntmps29
  go_wp2
  go_loopw [7, 10, 13] (fun _ _ i wr => ∃ k : Nat, k ≤ l.length ∧ k ≤ m.length ∧ i = .int .i64 k ∧ ans = cmpK true aK bK l m k ∧ Below w.heap.size w wr) (fun _ _ i _ => l.length - (intOf i).toNat)
  case atStart => exact ⟨0, Nat.zero_le _, Nat.zero_le _, rfl, HO.out, Below.refl _ _⟩
  case round =>
    obtain ⟨k, hk, hk', rfl, hP, hbel⟩ := hrel
    have hsz2 := hbel.size
    by_cases hlt : k < l.length
    · obtain ⟨g, rfl, hg, q0, q1⟩ := (HC.out.grow hbel).at hlt
      have hv := PSeg.carry (fun b hb => hb) (agree_below (hbel.mono hN)) d (HPs.out k hlt)
      obtain ⟨t1, x1, e1⟩ := hv.shape
      rw [e1] at q1 hv
      have hlt' : (k : Int) < (l.length : Int) := by omega
      have Hb1 : Hid (∀ o : Obj, Below w.heap.size w (wr.alloc o)) := fun o => Below.on hbel ((Below.refl _ _).alloc (Nat.le_refl _) o)
      by_cases hlt2 : k < m.length
      · obtain ⟨g', rfl, hg', r0, r1⟩ := (HC'.out.grow hbel).at hlt2
        have hv' := PSeg.carry (fun b hb => hb) (agree_below (hbel.mono hN)) d (HQs.out k hlt2)
        obtain ⟨t2, x2, e2⟩ := hv'.shape
        rw [e2] at r1 hv'
        have hlt2' : ¬ (m.length : Int) ≤ (k : Int) := by omega
        have hlt3' : (k : Int) < (m.length : Int) := by omega
        have r0A : ∀ o : Obj, (wr.alloc o).cell? ⟨g', k * 2, none⟩ = some (.string (strOf (bK.getD k []))) := fun o => (World.cell?_of_block (((Below.refl _ _).alloc (Nat.le_refl _) o : Below wr.heap.size wr (wr.alloc o)).block g' hg')).trans r0
        have r1A : ∀ o : Obj, (wr.alloc o).cell? ⟨g', k * 2 + 1, none⟩ = some (.iface t2 x2) := fun o => (World.cell?_of_block (((Below.refl _ _).alloc (Nat.le_refl _) o : Below wr.heap.size wr (wr.alloc o)).block g' hg')).trans r1
        have hE : Hid (∀ o o' : Obj, Calls Try.prog 31 #[.agg #[.string (strOf (aK.getD k [])), .iface t1 x1], .agg #[.string (strOf (bK.getD k [])), .iface t2 x2]] ((wr.alloc o).alloc o') fun e w' => e = .returned (.int .i64 (fldC d (aK.getD k []) (bK.getD k []) l[k] m[k])) ∧ Below w.heap.size w w') := by
          intro o o'
          have b0 : Below wr.heap.size wr ((wr.alloc o).alloc o') := ((Below.refl _ _).alloc (Nat.le_refl _) o).alloc (by simp) o'
          have ag := agree_below (b0.mono (by omega : N ≤ wr.heap.size))
          exact (cmpFields_any d HI.out N _ _ t1 t2 x1 x2 l[k] m[k] deep deep' _ (PSeg.carry (fun b hb => hb) ag d hv) (PSeg.carry (fun b hb => hb) ag d hv') (by have := b0.size; omega) (HA.out k hlt).1 (HA'.out k hlt2).1 (HA.out k hlt).2 (HA'.out k hlt2).2).mono fun e w' h => ⟨h.1, Below.on (Below.on hbel b0) h.2⟩
        rw [cmpK_fld hlt hlt2] at hP
        have HP := hide' hP
        clear hP hv hv' r0 r1 e1 e2
        generalize fldC d (aK.getD k []) (bK.getD k []) l[k] m[k] = sc at *
        generalize strOf (aK.getD k []) = sa at *
        generalize strOf (bK.getD k []) = sb at *
        by_cases h0 : sc = 0
        · subst h0
          have HP' : Hid (ans = cmpK true aK bK l m (k + 1)) := by show ans = _; rw [HP.out]; simp
          clear HP
          go_wp2_with fail
          refine (hE.out _ _).mono ?_
          rintro e w1 ⟨rfl, B1⟩
          clear q0 q1 r0A r1A
          go_wp2
          go_roundw
          case rel => exact ⟨k + 1, by omega, by omega, by go_num, HP'.out, B1⟩
          case measure => simp [intOf]; omega
        · have HP' : Hid (ans = sc) := by show ans = _; rw [HP.out]; simp [h0]
          have h0' : (sc != 0) = true := by simp [h0]
          clear HP
          go_wp2_with fail
          refine (hE.out _ _).mono ?_
          rintro e w1 ⟨rfl, B1⟩
          clear q0 q1 r0A r1A
          go_wp2
          go_ret
          exact ⟨ret_i64 (by rw [HP'.out]), B1⟩
      · have hlt2' : (m.length : Int) ≤ (k : Int) := by omega
        rw [cmpK_end1 hlt hlt2] at hP
        have HP := hide' hP
        clear hP hv
        generalize strOf (aK.getD k []) = sa at *
        go_wp2
        go_ret
        exact ⟨ret_i64 (by rw [HP.out]), Hb1.out _⟩
    · have hlt' : ¬ (k : Int) < (l.length : Int) := by omega
      have hkl : k = l.length := by omega
      by_cases hlt2 : k < m.length
      · rw [cmpK_end2 hlt hlt2] at hP
        have HP := hide' hP
        have hlm : (l.length : Int) < (m.length : Int) := by omega
        clear hP hkl
        go_wp2
        go_ret
        exact ⟨ret_i64 (by rw [HP.out]), hbel⟩
      · rw [cmpK_end3 hlt hlt2] at hP
        have HP := hide' hP
        have hlm : ¬ (l.length : Int) < (m.length : Int) := by omega
        clear hP hkl
        go_wp2
        go_ret
        exact ⟨ret_i64 (by rw [HP.out]), hbel⟩

set_option maxHeartbeats 3200000 in
set_option maxRecDepth 100000 in
theorem cmp_listPart (d : Nat) (ih : CmpAt d) (N : Nat) (a1 a2 : Option Addr) (c1 c2 : Nat) (l m : List (Vl d)) (aK bK : List (List Int)) (deep deep' : Nat) (w : World) (hx : PLSeg (fun b => b < N) w d (.slice a1 l.length c1) l) (hy : PLSeg (fun b => b < N) w d (.slice a2 m.length c2) m) (hN : N ≤ w.heap.size)
    (gl : ∀ k (h : k < l.length), goodB d l[k] deep = true ∧ partsV d l[k] ≤ 40) (gm : ∀ k (h : k < m.length), goodB d m[k] deep' = true ∧ partsV d m[k] ≤ 40) (hl40 : l.length ≤ 40) (hm40 : m.length ≤ 40) :
    Calls Try.prog 18 #[.iface 66 (.agg #[.slice a1 l.length c1]), .iface 66 (.agg #[.slice a2 m.length c2])] w fun e w' => e = .returned (.int .i64 (cmpK false aK bK l m 0)) ∧ Below w.heap.size w w' := by
  have HF : Hid (∀ wx, Below w.heap.size w wx → Calls Try.prog 28 #[.slice a1 l.length c1, .slice a2 m.length c2, .func (.func 18) #[] #[]] wx fun e w' => e = .returned (.int .i64 (cmpK false aK bK l m 0)) ∧ Below w.heap.size w w') := fun wx hb =>
    (cmpFuncP_any d ih N _ _ l m aK bK deep deep' wx (hx.agree (agree_below (hb.mono hN))) (hy.agree (agree_below (hb.mono hN))) (by have := hb.size; omega) gl gm hl40 hm40).mono fun e w' h => ⟨h.1, Below.on hb h.2⟩
  clear hx hy gl gm ih
  generalize cmpK false aK bK l m 0 = ans at *
  generalize l.length = n1 at *
  generalize m.length = n2 at *
  have m1 := meth_listPart (.agg #[.slice a1 n1 c1])
  have m2 := meth_listPart (.agg #[.slice a2 n2 c2])
  have HK := hide' (kind_listPart a1 n1 c1)
  have HK2 := hide' (kind_listPart a2 n2 c2)
  have t1 := no_bool_listPart (.agg #[.slice a1 n1 c1])
  have t2 := no_int_listPart (.agg #[.slice a1 n1 c1])
  have t3 := no_text_listPart (.agg #[.slice a1 n1 c1])
  have ty := yes_listPart (.agg #[.slice a1 n1 c1])
  have tm := must_listPart (.agg #[.slice a2 n2 c2])
  have tf := fld_listPart (.slice a2 n2 c2)
  have HC := hide' (fun a => cmpInt_any a a)
  have HZ := hide' numC_eq
  have Hb : Hid (∀ (wx : World) (o : Obj), Below wx.heap.size wx (wx.alloc o)) := fun wx o => (Below.refl _ _).alloc (Nat.le_refl _) o
  go_enter Try.func18, Try.ntmps18
  go_wp2_with fail
  refine (HK.out _).mono ?_
  rintro e w1 ⟨rfl, b1⟩
  go_wp2_with fail
  refine (HK2.out _).mono ?_
  rintro e w2 ⟨rfl, b2⟩
  have B2 := hide' (Below.on b1 b2)
  clear b1 b2
  go_wp2_with fail
  refine (HC.out _ _).mono ?_
  rw [HZ.out]
  rintro e w3 ⟨rfl, e3⟩
  obtain rfl := e3
  go_wp2_with fail
  go_region_with (go_at_call 28; refine (HF.out _ (Below.on B2.out (Hb.out _ _)).drew).mono ?_; rintro e w4 ⟨rfl, B4⟩)
  all_goals
    go_wp2
    go_ret
    exact ⟨rfl, B4⟩

set_option maxHeartbeats 3200000 in
set_option maxRecDepth 100000 in
theorem cmp_mapPart (d : Nat) (ih : CmpAt d) (N : Nat) (b1 b2 : Nat) (l m : List (Vl d)) (aK bK : List (List Int)) (ps qs : List Value) (deep deep' : Nat) (w : World) (hb1 : b1 < N) (hb2 : b2 < N)
    (hm1 : w.ownsMap Try.prog 9 tokR b1 64 (mapD aK ps l.length)) (hm2 : w.ownsMap Try.prog 9 tokR b2 64 (mapD bK qs m.length)) (ha : ∀ i, i < l.length → stepB aK i = true) (hb : ∀ i, i < m.length → stepB bK i = true) (hN : N ≤ w.heap.size)
    (hps : ∀ k (h : k < l.length), PSeg (fun b => b < N) w d (ps.getD k .nilIface) l[k]) (hqs : ∀ k (h : k < m.length), PSeg (fun b => b < N) w d (qs.getD k .nilIface) m[k])
    (gl : ∀ k (h : k < l.length), goodB d l[k] deep = true ∧ partsV d l[k] ≤ 40) (gm : ∀ k (h : k < m.length), goodB d m[k] deep' = true ∧ partsV d m[k] ≤ 40) (hl40 : l.length ≤ 40) (hm40 : m.length ≤ 40) :
    Calls Try.prog 18 #[.iface 70 (.agg #[.map (some b1)]), .iface 70 (.agg #[.map (some b2)])] w fun e w' => e = .returned (.int .i64 (cmpK true aK bK l m 0)) ∧ Below w.heap.size w w' := by
  have HF1 : Hid (∀ wx, Below w.heap.size w wx → Calls Try.prog 30 #[.agg #[.map (some b1)]] wx fun e w' => ∃ p c, e = .returned (.slice p l.length c) ∧ Hid (FRow w' (.slice p l.length c) aK ps l.length) ∧ Below wx.heap.size wx w') := fun wx hx => by
    refine (fields_any b1 l.length aK ps wx (ownsMap_agree hm1 (agree_below (hx.mono hN)) hb1) ha (fun i hi => (hps i hi).shape) hl40).mono ?_
    rintro e w' ⟨u, rfl, hF, hbb⟩
    have hF' := hF
    obtain ⟨p, c, rfl, _⟩ := hF
    exact ⟨p, c, rfl, hF', hbb⟩
  have HF2 : Hid (∀ wx, Below w.heap.size w wx → Calls Try.prog 30 #[.agg #[.map (some b2)]] wx fun e w' => ∃ p c, e = .returned (.slice p m.length c) ∧ Hid (FRow w' (.slice p m.length c) bK qs m.length) ∧ Below wx.heap.size wx w') := fun wx hx => by
    refine (fields_any b2 m.length bK qs wx (ownsMap_agree hm2 (agree_below (hx.mono hN)) hb2) hb (fun i hi => (hqs i hi).shape) hm40).mono ?_
    rintro e w' ⟨u, rfl, hF, hbb⟩
    have hF' := hF
    obtain ⟨p, c, rfl, _⟩ := hF
    exact ⟨p, c, rfl, hF', hbb⟩
  have HF3 : Hid (∀ wx x y, Below w.heap.size w wx → FRow wx x aK ps l.length → FRow wx y bK qs m.length → Calls Try.prog 29 #[x, y, .func (.func 31) #[] #[]] wx fun e w' => e = .returned (.int .i64 (cmpK true aK bK l m 0)) ∧ Below w.heap.size w w') := fun wx x y hx h1 h2 =>
    (cmpFuncF_any d ih N x y l m aK bK ps qs deep deep' wx h1 h2 (by have := hx.size; omega) (fun k h => PSeg.carry (fun b hb => hb) (agree_below (hx.mono hN)) d (hps k h)) (fun k h => PSeg.carry (fun b hb => hb) (agree_below (hx.mono hN)) d (hqs k h)) gl gm hl40 hm40).mono fun e w' h => ⟨h.1, Below.on hx h.2⟩
  clear hm1 hm2 ha hb hps hqs gl gm ih
  generalize cmpK true aK bK l m 0 = ans at *
  have m1 := meth_mapPart (.agg #[.map (some b1)])
  have m2 := meth_mapPart (.agg #[.map (some b2)])
  have HK := hide' (kind_mapPart b1)
  have HK2 := hide' (kind_mapPart b2)
  have t1 := no_bool_mapPart (.agg #[.map (some b1)])
  have t2 := no_int_mapPart (.agg #[.map (some b1)])
  have t3 := no_text_mapPart (.agg #[.map (some b1)])
  have t4 := no_list_mapPart (.agg #[.map (some b1)])
  have ty := yes_mapPart (.agg #[.map (some b1)])
  have tm := must_mapPart (.agg #[.map (some b2)])
  have HC := hide' (fun a => cmpInt_any a a)
  have HZ := hide' numC_eq
  have Hb : Hid (∀ (wx : World) (o : Obj), Below wx.heap.size wx (wx.alloc o)) := fun wx o => (Below.refl _ _).alloc (Nat.le_refl _) o
  go_enter Try.func18, Try.ntmps18
  go_wp2_with fail
  refine (HK.out _).mono ?_
  rintro e w1 ⟨rfl, c1⟩
  go_wp2_with fail
  refine (HK2.out _).mono ?_
  rintro e w2 ⟨rfl, c2⟩
  have B2 := hide' (Below.on c1 c2)
  clear c1 c2
  go_wp2_with fail
  refine (HC.out _ _).mono ?_
  rw [HZ.out]
  rintro e w3 ⟨rfl, e3⟩
  obtain rfl := e3
  go_wp2_with fail
  go_region_with (first
    | (go_at_call_of 30 b1; refine (HF1.out _ (Below.on B2.out (Hb.out _ _)).drew).mono ?_; rintro e w4 ⟨p1, q1, rfl, hR1, d1⟩; have D1 := Below.on (Below.on B2.out (Hb.out _ _)).drew d1)
    | (go_at_call_of 30 b2; refine (HF2.out _ D1).mono ?_; rintro e w5 ⟨p2, q2, rfl, hR2, d2⟩; have D2 := Below.on D1 d2; have hR3 := hide' (hR1.out.grow d2))
    | (go_at_call 29; refine (HF3.out _ _ _ D2 hR3.out hR2.out).mono ?_; rintro e w6 ⟨rfl, D3⟩))
  all_goals
    go_wp2
    go_ret
    exact ⟨rfl, D3⟩

end Go.Proofs.Ytdelgidbacglbaa
