/-
  Texts that a law leans on, one behind the other; no statement is proved here.
-/
import Derived.Test.YtpknhmegoldppaaPk21
import Derived.Test.YtpknhmegoldppaaPk15
import Derived.Test.YtpknhmegoldppaaPk20
import Derived.Test.YtpknhmegoldppaaPk19
/-
  impl.ValMerge answers as mrgA and mrgF say, whatever it is handed, on its own memory; no statement is proved here.
-/
namespace Go.Proofs.Ytpknhmegoldppaa
open Go.RowKit Go.Shelf
set_option linter.unusedVariables false
set_option linter.unusedSimpArgs false

set_option maxHeartbeats 6400000 in
set_option maxRecDepth 100000 in
theorem impl_ValMerge_any (d N : Nat) (c0 c1 c2 c3 c4 e0 e1 e2 e3 e4 : Value) (v x : Vl (d + 1)) (w : World) (hv : VSeg (fun b => b < N) w (d + 1) (c0, c1, c2, c3, c4) v) (hx : VSeg (fun b => b < N) w (d + 1) (e0, e1, e2, e3, e4) x) (hN : N ≤ w.heap.size) :
    Calls Try.prog 17 #[.agg #[c0, c1, c2, c3, c4], .agg #[e0, e1, e2, e3, e4]] w (Ans d (mrgA d v x) (mrgF d v x) w) := by
  have HA := hide' (boxes3 w)
  have HP : Hid (∀ o o' o'' : Obj, Calls Try.prog 32 #[.agg #[c0, c1, c2, c3, c4]] (((w.alloc o).alloc o').alloc o'') (MapOf (d + 1) v (((w.alloc o).alloc o').alloc o''))) := fun o o' o'' => mapOf_any (d + 1) N c0 c1 c2 c3 c4 v _ (VSeg.agree (fun b (h : b < N) => (HA.out o o' o'').2.2.2.2.block b (by omega)) (d + 1) hv) (by have := (HA.out o o' o'').2.2.2.1; omega)
  have HX : Hid (∀ wx, Below w.heap.size w wx → Calls Try.prog 32 #[.agg #[e0, e1, e2, e3, e4]] wx (MapOf (d + 1) x wx)) := fun wx hb => mapOf_any (d + 1) N e0 e1 e2 e3 e4 x wx (VSeg.agree (fun b (h : b < N) => hb.block b (by omega)) (d + 1) hx) (by have := hb.size; omega)
  obtain ⟨ck, cn, a2, l2, p2, a3, l3, p3, a4, l4, p4, rfl, rfl, rfl, rfl, rfl⟩ := VSeg.form (d + 1) hv
  obtain ⟨xk, xn, b2, m2, q2, b3, m3, q3, b4, m4, q4, rfl, rfl, rfl, rfl, rfl⟩ := VSeg.form (d + 1) hx
  clear hv hx
  go_enter Try.func17, Try.ntmps17
  go_wp2_with fail
  refine (HP.out _ _ _).mono ?_
  rintro e w1 ⟨b1, hcase⟩
  have h3 := HA.out (.cells #[.int .i64 ck, .int .i64 cn, .slice a2 l2 p2, .slice a3 l3 p3, .slice a4 l4 p4] 30) (.cells #[.int .i64 xk, .int .i64 xn, .slice b2 m2 q2, .slice b3 m3 q3, .slice b4 m4 q4] 30) (.cells #[.int .i64 0, .int .i64 0, .slice none 0 0, .slice none 0 0, .slice none 0 0] 30)
  have hX1 := (b1.block (w.heap.size + 1) (by have := h3.2.2.2.1; omega)).trans h3.2.1
  have hR1 := (b1.block (w.heap.size + 1 + 1) (by have := h3.2.2.2.1; omega)).trans h3.2.2.1
  have hB1 : Below w.heap.size w w1 := h3.2.2.2.2.trans (b1.mono (by have := h3.2.2.2.1; omega))
  have hs1 : w.heap.size + 3 ≤ w1.heap.size := by have h1 := b1.size; have h2 := h3.2.2.2.1; omega
  clear h3 HP
  have HX1 := hide' hX1
  have HR1 := hide' hR1
  have HB1 := hide' hB1
  have HBA : Hid (∀ o, Below w.heap.size w (w1.alloc o)) := fun o => hB1.alloc hB1.size o
  obtain ⟨x0, x1, x2, x3, x4, _⟩ := box_later hX1
  rcases hcase with ⟨b, rfl, hok, hk, hp⟩ | ⟨rfl, hno⟩
  · have HPx := hide' (HX.out _ (HBA.out (.cells #[.map (some b)] 59)))
    have Hok := hide' hok
    have Hk := hide' hk
    have Hp := hide' hp
    have hbR := (mapPart_inv hp hk).1
    have hbz : w.heap.size + 3 ≤ b ∧ b < w1.heap.size := by have h := hbR; simp only [World.size_alloc] at h; omega
    clear hX1 hR1 hB1 b1 hok hk hp hbR HX
    go_wp2_with fail
    refine HPx.out.mono ?_
    rintro e w2 ⟨b2', hcase2⟩
    have hz2 : w1.heap.size + 1 ≤ w2.heap.size := by have h := b2'.size; simpa using h
    have HB2 := hide' (Below.on (HBA.out _) b2')
    have HR2 := hide' ((b2'.block (w.heap.size + 1 + 1) (by simp; omega)).trans ((Below.heap_alloc _ _ _ (by omega)).trans HR1.out))
    have hM2 : w2.heap[w1.heap.size]? = some (.cells #[.map (some b)] 59) := (b2'.block w1.heap.size (by simp)).trans (MapKept.heap_alloc w1 _).1
    have HM2 := hide' hM2
    have HP2 : Hid (PSeg (fun c => c < w1.heap.size) w2 (d + 1) (.iface 59 (.agg #[.map (some b)])) v) := PSeg.carry (fun c h => h.2) (fun c h => (b2'.block c (by simp; omega)).trans (Below.heap_alloc _ _ _ h.2)) (d + 1) Hp.out
    clear HPx x0 x1 x2 x3 x4
    rcases hcase2 with ⟨b', rfl, hokx, hkx, hpx⟩ | ⟨rfl, hnox⟩
    · have Hokx := hide' hokx
      obtain ⟨vk, vn, vs, vK, vL⟩ := v
      have hk5 : vk = 5 := Hk.out
      subst hk5
      obtain ⟨yk, yn, ys, yK, yL⟩ := x
      have hk5' : yk = 5 := hkx
      subst hk5'
      obtain ⟨hbR', psB, hmB, hcB⟩ := mapPart_inv hpx hkx
      have hbz' : w1.heap.size + 1 ≤ b' ∧ b' < w2.heap.size := by have h := hbR'; simp only [World.size_alloc] at h; exact h
      simp only at hmB hcB
      obtain ⟨_, ps, hmA, _⟩ := mapPart_inv HP2.out rfl
      simp only at hmA
      have hbl := (ok_keys hokx).2.1
      have bup := (ok_keys hokx).2.2.1
      have bKL := (ok_keys hokx).1
      have hsz : Maps.size (mapD yK psB yL.length) = yL.length := by rw [mapD_listU _ _ _ (fun i hi => bup i (by omega)), size_ent]
      have bal2 : Below w2.heap.size w2 (w2.alloc (.cells #[.map (some b')] 59)) := (Below.refl _ _).alloc (Nat.le_refl _) _
      have HCp := hide' (copy_parts b b' 64 64 _ _ (w2.alloc (.cells #[.map (some b')] 59)) (hmA.alloc _) (hmB.alloc _) (by omega) (by unfold maxLen; omega))
      have HmA : Hid ((w2.alloc (.cells #[.map (some b')] 59)).ownsMap Try.prog 9 tokR b 64 (mapD vK ps vL.length)) := hmA.alloc _
      have HP3 : Hid (PSeg (fun c => c < w1.heap.size) (w2.alloc (.cells #[.map (some b')] 59)) (d + 1) (.iface 59 (.agg #[.map (some b)])) (5, vn, vs, vK, vL)) := PSeg.carry (fun c h => h) (fun c (h : c < w1.heap.size) => bal2.block c (by omega)) (d + 1) HP2.out
      have HcB : Hid (∀ i (h : i < yL.length), PSeg (fun c => w1.heap.size + 1 ≤ c ∧ c < w2.heap.size) (w2.alloc (.cells #[.map (some b')] 59)) d (psB.getD i .nilIface) yL[i]) := fun i hi => PSeg.carry (fun c h => by simp at h; exact h) (fun c h => bal2.block c (by simp at h; omega)) d (hcB i hi)
      have HB3 := hide' (Below.on HB2.out bal2)
      have HM3 := hide' ((bal2.block w1.heap.size (by omega)).trans HM2.out)
      have HR3 := hide' ((bal2.block (w.heap.size + 1 + 1) (by omega)).trans HR2.out)
      have cm3 : (w2.alloc (.cells #[.map (some b')] 59)).cell? ⟨w1.heap.size, 0, none⟩ = some (.map (some b)) := by rw [cell_of_row _ _ 0 _ _ _ HM3.out]; rfl
      clear hokx hkx hpx hM2 b2' hbR' hmB hcB hmA bup bKL bal2
      go_wp2_with fail
      refine HCp.out.mono ?_
      rintro e w4 ⟨rfl, hm4, hg4⟩
      have hz4 : w2.heap.size + 1 ≤ w4.heap.size := by have h := hg4.size; simpa using h
      have HB4 : Hid (Below w.heap.size w w4) := HB3.out.grown hg4 HB3.out.size (by intro j hj; simp at hj; omega)
      have HM4 := hide' ((hg4.block w1.heap.size (by simp; omega) (by simp; omega)).trans HM3.out)
      have HR4 := hide' ((hg4.block (w.heap.size + 1 + 1) (by simp; omega) (by simp; omega)).trans HR3.out)
      have HV4 := hide' (merge_value (Ra := fun c => c < w1.heap.size) (Rb := fun c => w1.heap.size + 1 ≤ c ∧ c < w2.heap.size) HP3.out Hok.out Hokx.out hg4 (fun c h => by simp; omega) (fun c h => by simp; omega) HmA.out hm4 HcB.out)
      have cm4 : w4.cell? ⟨w1.heap.size, 0, none⟩ = some (.map (some b)) := by rw [cell_of_row w4 _ 0 _ _ _ HM4.out]; rfl
      have HHd := hide' (mrg_head Hok.out (yK.zip yL))
      have hEn : entV d (5, yn, ys, yK, yL) = yK.zip yL := rfl
      clear hm4 hg4 cm3 HCp HP3 HcB HmA HM3 HR3 HB3
      go_wp2_with fail
      refine HV4.out.mono ?_
      rintro e w5 ⟨uK, uL, rfl, Bk, Bl, hKo, hLo, hBb, hnd, hb5⟩
      have hO5 : VOwn w5 (d + 1) (.int .i64 5, .int .i64 0, .slice none 0 0, uK, uL) (mrgV d (5, vn, vs, vK, vL) (yK.zip yL)) (Bk ++ Bl) := by
        rw [HHd.out]
        exact (VOwn_succ _ _ _ _ _).2 ⟨rfl, rfl, [], Bk, Bl, tNil _, hKo, hLo, by simp, hnd⟩
      obtain ⟨_, _, _, _, _, k3, k3n, k3c, k4, k4n, k4c, _, _, _, e5, e6⟩ := VOwn.form (d + 1) hO5
      subst e5
      subst e6
      have hz5 := hb5.size
      have bal : Below w5.heap.size w5 (w5.alloc (.cells #[.int .i64 5, .int .i64 0, .slice none 0 0, .slice k3 k3n k3c, .slice k4 k4n k4c] 30)) := (Below.refl _ _).alloc (Nat.le_refl _) _
      have HIk := hide' (impl_ValOk_any (d + 1) w5.heap.size _ _ _ _ _ _ _ (hO5.below bal) bal.size)
      have b45 := Below.on hb5 bal
      have HB5 := hide' (Below.on HB4.out b45)
      have HR5 := hide' ((b45.block (w.heap.size + 1 + 1) (by omega)).trans HR4.out)
      have HO5 := hide' (hO5.on bal)
      have HBb := hide' hBb
      have HN5 : Hid ((w5.alloc (.cells #[.int .i64 5, .int .i64 0, .slice none 0 0, .slice k3 k3n k3c, .slice k4 k4n k4c] 30)).heap[w5.heap.size]? = some (.cells #[.int .i64 5, .int .i64 0, .slice none 0 0, .slice k3 k3n k3c, .slice k4 k4n k4c] 30)) := (MapKept.heap_alloc w5 _).1
      clear HV4 cm4 hKo hLo hBb hnd hb5 hO5 bal b45
      go_wp2_with fail
      refine HIk.out.mono ?_
      rintro e w6 ⟨rfl, b6⟩
      have hz6 : w5.heap.size + 1 ≤ w6.heap.size := by have h := b6.size; simpa using h
      have HB6 := hide' (Below.on HB5.out b6)
      have HR6 := hide' ((b6.block (w.heap.size + 1 + 1) (by simp; omega)).trans HR5.out)
      have HN6 := hide' ((b6.block w5.heap.size (by simp)).trans HN5.out)
      have HO6 := hide' (HO5.out.on b6)
      clear HIk b6
      by_cases hfo : okB (d + 1) (mrgV d (5, vn, vs, vK, vL) (yK.zip yL)) = true
      · rw [hfo]
        have HE := hide' (mrgA_yes (d := d) (a := (5, vn, vs, vK, vL)) (b := (5, yn, ys, yK, yL)) ⟨⟨Hok.out, rfl⟩, ⟨Hokx.out, rfl⟩, hfo⟩)
        clear hfo
        obtain ⟨r0, r1, r2', r3', r4', rf⟩ := row5 HR6.out
        have f0 := rf 0
        have f1 := rf 1
        have f2 := rf 2
        have f3 := rf 3
        have f4 := rf 4
        obtain ⟨v0, v1, v2, v3, v4, _⟩ := row5 HN6.out
        clear rf
        go_wp2_with fail
        have hfin := row5 (set5_heap (j := 0) (.int .i64 5) (.int .i64 0) (.slice none 0 0) (.slice k3 k3n k3c) (.slice k4 k4n k4c) HR6.out)
        simp only [set5, Nat.zero_add] at hfin
        obtain ⟨o0, o1, o2, o3, o4, _⟩ := hfin
        refine bodyPost_ret (v := .tuple #[.agg #[.int .i64 5, .int .i64 0, .slice none 0 0, .slice k3 k3n k3c, .slice k4 k4n k4c], .bool true]) (by simp [results, Try.results17, go_sem, o0, o1, o2, o3, o4]) rfl ?_
        exact ans_val HE.out HO6.out (fun c hc => by have := HBb.out c hc; omega) HB6.out (by omega)
      · have hfo' : okB (d + 1) (mrgV d (5, vn, vs, vK, vL) (yK.zip yL)) = false := by simpa using hfo
        rw [hfo']
        have HE := hide' (mrgA_no (d := d) (a := (5, vn, vs, vK, vL)) (b := (5, yn, ys, yK, yL)) (fun h => hfo h.2.2))
        clear hfo hfo'
        obtain ⟨r0, r1, r2', r3', r4', rf⟩ := row5 HR6.out
        have f0 := rf 0
        have f1 := rf 1
        have f2 := rf 2
        have f3 := rf 3
        have f4 := rf 4
        clear rf
        go_wp2_with fail
        have hfin := row5 (set5_heap (j := 0) (.int .i64 0) (.int .i64 0) (.slice none 0 0) (.slice none 0 0) (.slice none 0 0) HR6.out)
        simp only [set5, Nat.zero_add] at hfin
        obtain ⟨o0, o1, o2, o3, o4, _⟩ := hfin
        refine bodyPost_ret (v := .tuple #[.agg #[.int .i64 0, .int .i64 0, .slice none 0 0, .slice none 0 0, .slice none 0 0], .bool false]) (by simp [results, Try.results17, go_sem, o0, o1, o2, o3, o4]) rfl ?_
        exact ans_nil HE.out HB6.out (by omega)
    · have HE := hide' (mrgA_no (d := d) (a := v) (b := x) (fun h => hnox ⟨h.2.1.1, h.2.1.2⟩))
      clear hnox hM2 b2'
      have HRo : Hid ((w2.alloc (.cells #[.map none] 59)).heap[w.heap.size + 1 + 1]? = some (.cells #[.int .i64 0, .int .i64 0, .slice none 0 0, .slice none 0 0, .slice none 0 0] 30 (0, 0))) := (Below.heap_alloc _ _ _ (by omega)).trans HR2.out
      have HBo : Hid (Below w.heap.size w (w2.alloc (.cells #[.map none] 59))) := HB2.out.alloc HB2.out.size _
      obtain ⟨r0, r1, r2', r3', r4', rf⟩ := row5 HRo.out
      have f0 := rf 0
      have f1 := rf 1
      have f2 := rf 2
      have f3 := rf 3
      have f4 := rf 4
      clear rf
      go_wp2_with fail
      have hfin := row5 (set5_heap (j := 0) (.int .i64 0) (.int .i64 0) (.slice none 0 0) (.slice none 0 0) (.slice none 0 0) HRo.out)
      simp only [set5, Nat.zero_add] at hfin
      obtain ⟨o0, o1, o2, o3, o4, _⟩ := hfin
      refine bodyPost_ret (v := .tuple #[.agg #[.int .i64 0, .int .i64 0, .slice none 0 0, .slice none 0 0, .slice none 0 0], .bool false]) (by simp [results, Try.results17, go_sem, o0, o1, o2, o3, o4]) rfl ?_
      exact ans_nil HE.out HBo.out (by omega)
  · have HPx := hide' (HX.out _ (HBA.out (.cells #[.map none] 59)))
    have HE := hide' (mrgA_no (d := d) (a := v) (b := x) (fun h => hno ⟨h.1.1, h.1.2⟩))
    clear hX1 hR1 hB1 b1 hno HX
    go_wp2_with fail
    refine HPx.out.mono ?_
    rintro e w2 ⟨b2', hcase2⟩
    have hz2 : w1.heap.size + 1 ≤ w2.heap.size := by have h := b2'.size; simpa using h
    have HB2 := hide' (Below.on (HBA.out _) b2')
    have HR2 := hide' ((b2'.block (w.heap.size + 1 + 1) (by simp; omega)).trans ((Below.heap_alloc _ _ _ (by omega)).trans HR1.out))
    clear HPx x0 x1 x2 x3 x4 b2'
    have he : ∃ mo f, e = .returned (.tuple #[.agg #[.map mo], .bool f]) := by rcases hcase2 with ⟨b', rfl, _⟩ | ⟨rfl, _⟩ <;> exact ⟨_, _, rfl⟩
    clear hcase2
    obtain ⟨mo, f, rfl⟩ := he
    have HRo : Hid ((w2.alloc (.cells #[.map mo] 59)).heap[w.heap.size + 1 + 1]? = some (.cells #[.int .i64 0, .int .i64 0, .slice none 0 0, .slice none 0 0, .slice none 0 0] 30 (0, 0))) := (Below.heap_alloc _ _ _ (by omega)).trans HR2.out
    have HBo : Hid (Below w.heap.size w (w2.alloc (.cells #[.map mo] 59))) := HB2.out.alloc HB2.out.size _
    obtain ⟨r0, r1, r2', r3', r4', rf⟩ := row5 HRo.out
    have f0 := rf 0
    have f1 := rf 1
    have f2 := rf 2
    have f3 := rf 3
    have f4 := rf 4
    clear rf
    go_wp2_with fail
    have hfin := row5 (set5_heap (j := 0) (.int .i64 0) (.int .i64 0) (.slice none 0 0) (.slice none 0 0) (.slice none 0 0) HRo.out)
    simp only [set5, Nat.zero_add] at hfin
    obtain ⟨o0, o1, o2, o3, o4, _⟩ := hfin
    refine bodyPost_ret (v := .tuple #[.agg #[.int .i64 0, .int .i64 0, .slice none 0 0, .slice none 0 0, .slice none 0 0], .bool false]) (by simp [results, Try.results17, go_sem, o0, o1, o2, o3, o4]) rfl ?_
    exact ans_nil HE.out HBo.out (by omega)
end Go.Proofs.Ytpknhmegoldppaa
/-
  FnExactValMerge answers true, whatever two values it is handed: the too large, and the rest; no statement is proved here.
-/
namespace Go.Proofs.Ytpknhmegoldppaa
open Go.RowKit Go.Shelf
set_option linter.unusedVariables false
set_option linter.unusedSimpArgs false

set_option maxHeartbeats 3200000 in
set_option maxRecDepth 100000 in
theorem mrg_big (d : Nat) (v : Vl (d + 1)) (c0 c1 c2 c3 c4 e0 e1 e2 e3 e4 : Value) (w : World) (hv : VSeg (fun b => b < w.heap.size) w (d + 1) (c0, c1, c2, c3, c4) v) (hf' : ∃ (ck cn : Int) (a2 : Option Addr) (l2 p2 : Nat) (a3 : Option Addr) (l3 p3 : Nat) (a4 : Option Addr) (l4 p4 : Nat), e0 = .int .i64 ck ∧ e1 = .int .i64 cn ∧ e2 = .slice a2 l2 p2 ∧ e3 = .slice a3 l3 p3 ∧ e4 = .slice a4 l4 p4) (hz : (1048576 : Int) < szV (d + 1) v) :
    Calls Try.prog 4 #[.agg #[c0, c1, c2, c3, c4], .agg #[e0, e1, e2, e3, e4]] w fun e w' => e = .returned (.bool true) ∧ Below w.heap.size w w' := by
  have HS : Hid (∀ wx, Below w.heap.size w wx → Calls Try.prog 6 #[.agg #[c0, c1, c2, c3, c4], .int .i64 1048576] wx fun e w' => e = .returned (.int .i64 (less 1048576 (szV (d + 1) v))) ∧ Below wx.heap.size wx w') := fun wx hb =>
    szValue_any (d + 1) w.heap.size (c0, c1, c2, c3, c4) v 1048576 wx (VSeg.agree (agree_below hb) (d + 1) hv) hb.size (by omega) (by omega)
  have Hb : Hid (∀ o o' : Obj, Below w.heap.size w ((w.alloc o).alloc o')) := fun o o' => ((Below.refl _ _).alloc (Nat.le_refl _) o).alloc (by simp) o'
  obtain ⟨ck, cn, a2, l2, p2, a3, l3, p3, a4, l4, p4, rfl, rfl, rfl, rfl, rfl⟩ := VSeg.form (d + 1) hv
  obtain ⟨xk, xn, b2, m2, q2, b3, m3, q3, b4, m4, q4, rfl, rfl, rfl, rfl, rfl⟩ := hf'
  have Hr : Hid (∀ (o o' : Obj) (wx : World), Below ((w.alloc o).alloc o').heap.size ((w.alloc o).alloc o') wx → wx.heap[w.heap.size]? = some o ∧ wx.heap[w.heap.size + 1]? = some o') := fun o o' wx h => rows2_WMrg h
  have hl : less 1048576 (szV (d + 1) v) = -1 := less_no _ _ hz
  rw [hl] at HS
  clear hl hv hz
  go_enter Try.func4, Try.ntmps4
  go_wp2_with fail
  refine (HS.out _ (Hb.out _ _)).mono ?_
  rintro e w1 ⟨rfl, b1⟩
  have B1 := hide' (Below.on (Hb.out _ _) b1)
  have h2 := (Hr.out _ _ _ b1).2
  have HX := hide' h2
  obtain ⟨g0, g1, g2, g3, g4, _⟩ := row5 HX.out
  clear b1 h2
  go_wp2
  go_ret
  exact ⟨rfl, B1.out⟩

set_option maxHeartbeats 3200000 in
set_option maxRecDepth 100000 in
theorem mrg_big2 (d d' : Nat) (v : Vl (d + 1)) (x : Vl (d' + 1)) (c0 c1 c2 c3 c4 e0 e1 e2 e3 e4 : Value) (w : World) (hv : VSeg (fun b => b < w.heap.size) w (d + 1) (c0, c1, c2, c3, c4) v) (hx : VSeg (fun b => b < w.heap.size) w (d' + 1) (e0, e1, e2, e3, e4) x) (hz : ¬ (1048576 : Int) < szV (d + 1) v) (hz2 : (1048576 : Int) - szV (d + 1) v < szV (d' + 1) x) :
    Calls Try.prog 4 #[.agg #[c0, c1, c2, c3, c4], .agg #[e0, e1, e2, e3, e4]] w fun e w' => e = .returned (.bool true) ∧ Below w.heap.size w w' := by
  have HS : Hid (∀ wx, Below w.heap.size w wx → Calls Try.prog 6 #[.agg #[c0, c1, c2, c3, c4], .int .i64 1048576] wx fun e w' => e = .returned (.int .i64 (less 1048576 (szV (d + 1) v))) ∧ Below wx.heap.size wx w') := fun wx hb =>
    szValue_any (d + 1) w.heap.size (c0, c1, c2, c3, c4) v 1048576 wx (VSeg.agree (agree_below hb) (d + 1) hv) hb.size (by omega) (by omega)
  have HS2 : Hid (∀ wx, Below w.heap.size w wx → Calls Try.prog 6 #[.agg #[e0, e1, e2, e3, e4], .int .i64 (1048576 - szV (d + 1) v)] wx fun e w' => e = .returned (.int .i64 (less (1048576 - szV (d + 1) v) (szV (d' + 1) x))) ∧ Below wx.heap.size wx w') := fun wx hb =>
    szValue_any (d' + 1) w.heap.size (e0, e1, e2, e3, e4) x _ wx (VSeg.agree (agree_below hb) (d' + 1) hx) hb.size (by omega) (by omega)
  have Hb : Hid (∀ o o' : Obj, Below w.heap.size w ((w.alloc o).alloc o')) := fun o o' => ((Below.refl _ _).alloc (Nat.le_refl _) o).alloc (by simp) o'
  obtain ⟨ck, cn, a2, l2, p2, a3, l3, p3, a4, l4, p4, rfl, rfl, rfl, rfl, rfl⟩ := VSeg.form (d + 1) hv
  obtain ⟨xk, xn, b2, m2, q2, b3, m3, q3, b4, m4, q4, rfl, rfl, rfl, rfl, rfl⟩ := VSeg.form (d' + 1) hx
  have Hr : Hid (∀ (o o' : Obj) (wx : World), Below ((w.alloc o).alloc o').heap.size ((w.alloc o).alloc o') wx → wx.heap[w.heap.size]? = some o ∧ wx.heap[w.heap.size + 1]? = some o') := fun o o' wx h => rows2_WMrg h
  have hl : less 1048576 (szV (d + 1) v) = 1048576 - szV (d + 1) v := less_yes _ _ hz
  have hl2 : less (1048576 - szV (d + 1) v) (szV (d' + 1) x) = -1 := less_no _ _ hz2
  rw [hl] at HS
  rw [hl2] at HS2
  have hz0 : 0 ≤ (1048576 : Int) - szV (d + 1) v := by omega
  have hz1 : (1048576 : Int) - szV (d + 1) v ≤ 1048576 := by omega
  clear hl hl2 hv hx hz hz2
  generalize szV (d + 1) v = sz at *
  go_enter Try.func4, Try.ntmps4
  go_wp2_with fail
  refine (HS.out _ (Hb.out _ _)).mono ?_
  rintro e w1 ⟨rfl, b1⟩
  have B1 := hide' (Below.on (Hb.out _ _) b1)
  have h2 := (Hr.out _ _ _ b1).2
  have HX := hide' h2
  obtain ⟨g0, g1, g2, g3, g4, _⟩ := row5 HX.out
  clear b1 h2
  go_wp2_with fail
  refine (HS2.out _ B1.out).mono ?_
  rintro e w2 ⟨rfl, b2'⟩
  have B2 := hide' (Below.on B1.out b2')
  clear b2' g0 g1 g2 g3 g4
  go_wp2
  go_ret
  exact ⟨rfl, B2.out⟩

theorem walk_FnExactValMerge (n n' : Nat) (c0 c1 c2 c3 c4 e0 e1 e2 e3 e4 : Value) (v0 : Vl n) (x0 : Vl n') (w : World) (hv0 : VSeg (fun b => b < w.heap.size) w n (c0, c1, c2, c3, c4) v0) (hx0 : VSeg (fun b => b < w.heap.size) w n' (e0, e1, e2, e3, e4) x0) :
    Calls Try.prog 4 #[.agg #[c0, c1, c2, c3, c4], .agg #[e0, e1, e2, e3, e4]] w fun e w' => e = .returned (.bool true) ∧ Below w.heap.size w w' := by
  obtain ⟨v, hv⟩ := hv0.at_least (D := n + n' + 1) (by omega)
  obtain ⟨x, hx⟩ := hx0.at_least (D := n + n' + 1) (by omega)
  clear hv0 hx0
  generalize n + n' = d at *
  by_cases hz : (1048576 : Int) < szV (d + 1) v
  · exact mrg_big d v c0 c1 c2 c3 c4 e0 e1 e2 e3 e4 w hv (VSeg.form _ hx) hz
  by_cases hz2 : (1048576 : Int) - szV (d + 1) v < szV (d + 1) x
  · exact mrg_big2 d d v x c0 c1 c2 c3 c4 e0 e1 e2 e3 e4 w hv hx hz hz2
  have hsA := mrgA_sz d v x
  refine walk_WMrg d d d v x (mrgA d v x) (mrgF d v x) c0 c1 c2 c3 c4 e0 e1 e2 e3 e4 w hv hx (by omega) (by omega) (hide' ?_) (hide' ?_)
  · intro u0 u1 u2 u3 u4 BA y0 y1 y2 y3 y4 BX wx hA hX
    exact spec_ValMerge_any d u0 u1 u2 u3 u4 y0 y1 y2 y3 y4 v x wx (hA.below (Below.refl _ _)) (hX.below (Below.refl _ _))
  · intro u0 u1 u2 u3 u4 BA y0 y1 y2 y3 y4 BX wx hA hX
    exact impl_ValMerge_any d wx.heap.size u0 u1 u2 u3 u4 y0 y1 y2 y3 y4 v x wx (hA.below (Below.refl _ _)) (hX.below (Below.refl _ _)) (Nat.le_refl _)
end Go.Proofs.Ytpknhmegoldppaa
