/-
  Texts that a law leans on, one behind the other; no statement is proved here.
-/
import Derived.Test.YtenfnbnhdmkhkaaPk37
import Derived.Test.YtenfnbnhdmkhkaaPk33
import Derived.Test.YtenfnbnhdmkhkaaPk31
import Derived.Test.YtenfnbnhdmkhkaaPk30
/-
  impl.ValMerge answers as mrgA and mrgF say, whatever it is handed, on its own memory; no statement is proved here.
-/
namespace Go.Proofs.Ytenfnbnhdmkhkaa
open Go.RowKit Go.Shelf
set_option linter.unusedVariables false
set_option linter.unusedSimpArgs false

set_option maxHeartbeats 6400000 in
set_option maxRecDepth 100000 in
theorem impl_ValMerge_any (d N : Nat) (c0 c1 c2 c3 c4 e0 e1 e2 e3 e4 : Value) (v x : Vl (d + 1)) (w : World) (hv : VSeg (fun b => b < N) w (d + 1) (c0, c1, c2, c3, c4) v) (hx : VSeg (fun b => b < N) w (d + 1) (e0, e1, e2, e3, e4) x) (hN : N ≤ w.heap.size) :
    Calls Try.prog 20 #[.agg #[c0, c1, c2, c3, c4], .agg #[e0, e1, e2, e3, e4]] w (Ans d (mrgA d v x) (mrgF d v x) w) := by
  have HA := hide' (boxes3 w)
  have HP : Hid (∀ o o' o'' : Obj, Calls Try.prog 33 #[.agg #[c0, c1, c2, c3, c4]] (((w.alloc o).alloc o').alloc o'') (MapOf (d + 1) v (((w.alloc o).alloc o').alloc o''))) := fun o o' o'' => mapOf_any (d + 1) N c0 c1 c2 c3 c4 v _ (VSeg.agree (fun b (h : b < N) => (HA.out o o' o'').2.2.2.2.block b (by omega)) (d + 1) hv) (by have := (HA.out o o' o'').2.2.2.1; omega)
  have HX : Hid (∀ wx, Below w.heap.size w wx → Calls Try.prog 33 #[.agg #[e0, e1, e2, e3, e4]] wx (MapOf (d + 1) x wx)) := fun wx hb => mapOf_any (d + 1) N e0 e1 e2 e3 e4 x wx (VSeg.agree (fun b (h : b < N) => hb.block b (by omega)) (d + 1) hx) (by have := hb.size; omega)
  obtain ⟨ck, cn, a2, l2, p2, a3, l3, p3, a4, l4, p4, rfl, rfl, rfl, rfl, rfl⟩ := VSeg.form (d + 1) hv
  obtain ⟨xk, xn, b2, m2, q2, b3, m3, q3, b4, m4, q4, rfl, rfl, rfl, rfl, rfl⟩ := VSeg.form (d + 1) hx
  clear hv hx
  go_enter Try.func20, Try.ntmps20
  go_wp2_with fail
  refine (HP.out _ _ _).mono ?_
  rintro e w1 ⟨b1, hcase⟩
  have h3 := HA.out (.cells #[.int .i64 ck, .int .i64 cn, .slice a2 l2 p2, .slice a3 l3 p3, .slice a4 l4 p4] 26) (.cells #[.int .i64 xk, .int .i64 xn, .slice b2 m2 q2, .slice b3 m3 q3, .slice b4 m4 q4] 26) (.cells #[.int .i64 0, .int .i64 0, .slice none 0 0, .slice none 0 0, .slice none 0 0] 26)
  have hX1 := (b1.block (w.heap.size + 1) (by have := h3.2.2.2.1; omega)).trans h3.2.1
  have hR1 := (b1.block (w.heap.size + 1 + 1) (by have := h3.2.2.2.1; omega)).trans h3.2.2.1
  have hB1 : Below w.heap.size w w1 := h3.2.2.2.2.trans (b1.mono (by have := h3.2.2.2.1; omega))
  have hs1 : w.heap.size + 3 ≤ w1.heap.size := by have h1 := b1.size; have h2 := h3.2.2.2.1; omega
  clear h3 HP
  have HX1 := hide' hX1
  have HR1 := hide' hR1
  have HB1 := hide' hB1
  have HBA : Hid (∀ o, Below w.heap.size w (w1.alloc o)) := fun o => hB1.alloc hB1.size o
  obtain ⟨x0, x1, x2, x3, x4, _⟩ := box_later hX1
  rcases hcase with ⟨b, rfl, hok, hk, hp⟩ | ⟨rfl, hno⟩
  · have HPx := hide' (HX.out _ (HBA.out (.cells #[.map (some b)] 60)))
    have Hok := hide' hok
    have Hk := hide' hk
    have Hp := hide' hp
    have hbR := (mapPart_inv hp hk).1
    have hbz : w.heap.size + 3 ≤ b ∧ b < w1.heap.size := by have h := hbR; simp only [World.size_alloc] at h; omega
    clear hX1 hR1 hB1 b1 hok hk hp hbR HX
    go_wp2_with fail
    refine HPx.out.mono ?_
    rintro e w2 ⟨b2', hcase2⟩
    have hz2 : w1.heap.size + 1 ≤ w2.heap.size := by have h := b2'.size; simpa using h
    have HB2 := hide' (Below.on (HBA.out _) b2')
    have HR2 := hide' ((b2'.block (w.heap.size + 1 + 1) (by simp; omega)).trans ((Below.heap_alloc _ _ _ (by omega)).trans HR1.out))
    have hM2 : w2.heap[w1.heap.size]? = some (.cells #[.map (some b)] 60) := (b2'.block w1.heap.size (by simp)).trans (MapKept.heap_alloc w1 _).1
    have HM2 := hide' hM2
    have HP2 : Hid (PSeg (fun c => c < w1.heap.size) w2 (d + 1) (.iface 60 (.agg #[.map (some b)])) v) := PSeg.carry (fun c h => h.2) (fun c h => (b2'.block c (by simp; omega)).trans (Below.heap_alloc _ _ _ h.2)) (d + 1) Hp.out
    clear HPx x0 x1 x2 x3 x4
    rcases hcase2 with ⟨b', rfl, hokx, hkx, hpx⟩ | ⟨rfl, hnox⟩
    · have Hokx := hide' hokx
      obtain ⟨vk, vn, vs, vK, vL⟩ := v
      have hk5 : vk = 5 := Hk.out
      subst hk5
      obtain ⟨yk, yn, ys, yK, yL⟩ := x
      have hk5' : yk = 5 := hkx
      subst hk5'
      obtain ⟨hbR', psB, hmB, hcB⟩ := mapPart_inv hpx hkx
      have hbz' : w1.heap.size + 1 ≤ b' ∧ b' < w2.heap.size := by have h := hbR'; simp only [World.size_alloc] at h; exact h
      simp only at hmB hcB
      obtain ⟨_, ps, hmA, _⟩ := mapPart_inv HP2.out rfl
      simp only at hmA
      have hbl := (ok_keys hokx).2.1
      have bup := (ok_keys hokx).2.2.1
      have bKL := (ok_keys hokx).1
      have hsz : Maps.size (mapD yK psB yL.length) = yL.length := by rw [mapD_listU _ _ _ (fun i hi => bup i (by omega)), size_ent]
      have bal2 : Below w2.heap.size w2 (w2.alloc (.cells #[.map (some b')] 60)) := (Below.refl _ _).alloc (Nat.le_refl _) _
      have HCp := hide' (copy_parts b b' 64 64 _ _ (w2.alloc (.cells #[.map (some b')] 60)) (hmA.alloc _) (hmB.alloc _) (by omega) (by unfold maxLen; omega))
      have HmA : Hid ((w2.alloc (.cells #[.map (some b')] 60)).ownsMap Try.prog 9 tokR b 64 (mapD vK ps vL.length)) := hmA.alloc _
      have HP3 : Hid (PSeg (fun c => c < w1.heap.size) (w2.alloc (.cells #[.map (some b')] 60)) (d + 1) (.iface 60 (.agg #[.map (some b)])) (5, vn, vs, vK, vL)) := PSeg.carry (fun c h => h) (fun c (h : c < w1.heap.size) => bal2.block c (by omega)) (d + 1) HP2.out
      have HcB : Hid (∀ i (h : i < yL.length), PSeg (fun c => w1.heap.size + 1 ≤ c ∧ c < w2.heap.size) (w2.alloc (.cells #[.map (some b')] 60)) d (psB.getD i .nilIface) yL[i]) := fun i hi => PSeg.carry (fun c h => by simp at h; exact h) (fun c h => bal2.block c (by simp at h; omega)) d (hcB i hi)
      have HB3 := hide' (Below.on HB2.out bal2)
      have HM3 := hide' ((bal2.block w1.heap.size (by omega)).trans HM2.out)
      have HR3 := hide' ((bal2.block (w.heap.size + 1 + 1) (by omega)).trans HR2.out)
      have cm3 : (w2.alloc (.cells #[.map (some b')] 60)).cell? ⟨w1.heap.size, 0, none⟩ = some (.map (some b)) := by rw [cell_of_row _ _ 0 _ _ _ HM3.out]; rfl
      clear hokx hkx hpx hM2 b2' hbR' hmB hcB hmA bup bKL bal2
      go_wp2_with fail
      refine HCp.out.mono ?_
      rintro e w4 ⟨rfl, hm4, hg4⟩
      have hz4 : w2.heap.size + 1 ≤ w4.heap.size := by have h := hg4.size; simpa using h
      have HB4 : Hid (Below w.heap.size w w4) := HB3.out.grown hg4 HB3.out.size (by intro j hj; simp at hj; omega)
      have HM4 := hide' ((hg4.block w1.heap.size (by simp; omega) (by simp; omega)).trans HM3.out)
      have HR4 := hide' ((hg4.block (w.heap.size + 1 + 1) (by simp; omega) (by simp; omega)).trans HR3.out)
      have HV4 := hide' (merge_value (Ra := fun c => c < w1.heap.size) (Rb := fun c => w1.heap.size + 1 ≤ c ∧ c < w2.heap.size) HP3.out Hok.out Hokx.out hg4 (fun c h => by simp; omega) (fun c h => by simp; omega) HmA.out hm4 HcB.out)
      have cm4 : w4.cell? ⟨w1.heap.size, 0, none⟩ = some (.map (some b)) := by rw [cell_of_row w4 _ 0 _ _ _ HM4.out]; rfl
      have HHd := hide' (mrg_head Hok.out (yK.zip yL))
      have hEn : entV d (5, yn, ys, yK, yL) = yK.zip yL := rfl
      clear hm4 hg4 cm3 HCp HP3 HcB HmA HM3 HR3 HB3
      go_wp2_with fail
      refine HV4.out.mono ?_
      rintro e w5 ⟨uK, uL, rfl, Bk, Bl, hKo, hLo, hBb, hnd, hb5⟩
      have hO5 : VOwn w5 (d + 1) (.int .i64 5, .int .i64 0, .slice none 0 0, uK, uL) (mrgV d (5, vn, vs, vK, vL) (yK.zip yL)) (Bk ++ Bl) := by
        rw [HHd.out]
        exact (VOwn_succ _ _ _ _ _).2 ⟨rfl, rfl, [], Bk, Bl, tNil _, hKo, hLo, by simp, hnd⟩
      obtain ⟨_, _, _, _, _, k3, k3n, k3c, k4, k4n, k4c, _, _, _, e5, e6⟩ := VOwn.form (d + 1) hO5
      subst e5
      subst e6
      have hz5 := hb5.size
      have bal : Below w5.heap.size w5 (w5.alloc (.cells #[.int .i64 5, .int .i64 0, .slice none 0 0, .slice k3 k3n k3c, .slice k4 k4n k4c] 26)) := (Below.refl _ _).alloc (Nat.le_refl _) _
      have HIk := hide' (impl_ValOk_any (d + 1) w5.heap.size _ _ _ _ _ _ _ (hO5.below bal) bal.size)
      have b45 := Below.on hb5 bal
      have HB5 := hide' (Below.on HB4.out b45)
      have HR5 := hide' ((b45.block (w.heap.size + 1 + 1) (by omega)).trans HR4.out)
      have HO5 := hide' (hO5.on bal)
      have HBb := hide' hBb
      have HN5 : Hid ((w5.alloc (.cells #[.int .i64 5, .int .i64 0, .slice none 0 0, .slice k3 k3n k3c, .slice k4 k4n k4c] 26)).heap[w5.heap.size]? = some (.cells #[.int .i64 5, .int .i64 0, .slice none 0 0, .slice k3 k3n k3c, .slice k4 k4n k4c] 26)) := (MapKept.heap_alloc w5 _).1
      clear HV4 cm4 hKo hLo hBb hnd hb5 hO5 bal b45
      go_wp2_with fail
      refine HIk.out.mono ?_
      rintro e w6 ⟨rfl, b6⟩
      have hz6 : w5.heap.size + 1 ≤ w6.heap.size := by have h := b6.size; simpa using h
      have HB6 := hide' (Below.on HB5.out b6)
      have HR6 := hide' ((b6.block (w.heap.size + 1 + 1) (by simp; omega)).trans HR5.out)
      have HN6 := hide' ((b6.block w5.heap.size (by simp)).trans HN5.out)
      have HO6 := hide' (HO5.out.on b6)
      clear HIk b6
      by_cases hfo : okB (d + 1) (mrgV d (5, vn, vs, vK, vL) (yK.zip yL)) = true
      · rw [hfo]
        have HE := hide' (mrgA_yes (d := d) (a := (5, vn, vs, vK, vL)) (b := (5, yn, ys, yK, yL)) ⟨⟨Hok.out, rfl⟩, ⟨Hokx.out, rfl⟩, hfo⟩)
        clear hfo
        obtain ⟨r0, r1, r2', r3', r4', rf⟩ := row5 HR6.out
        have f0 := rf 0
        have f1 := rf 1
        have f2 := rf 2
        have f3 := rf 3
        have f4 := rf 4
        obtain ⟨v0, v1, v2, v3, v4, _⟩ := row5 HN6.out
        clear rf
        go_wp2_with fail
        have hfin := row5 (set5_heap (j := 0) (.int .i64 5) (.int .i64 0) (.slice none 0 0) (.slice k3 k3n k3c) (.slice k4 k4n k4c) HR6.out)
        simp only [set5, Nat.zero_add] at hfin
        obtain ⟨o0, o1, o2, o3, o4, _⟩ := hfin
        refine bodyPost_ret (v := .tuple #[.agg #[.int .i64 5, .int .i64 0, .slice none 0 0, .slice k3 k3n k3c, .slice k4 k4n k4c], .bool true]) (by simp [results, Try.results20, go_sem, o0, o1, o2, o3, o4]) rfl ?_
        exact ans_val HE.out HO6.out (fun c hc => by have := HBb.out c hc; omega) HB6.out (by omega)
      · have hfo' : okB (d + 1) (mrgV d (5, vn, vs, vK, vL) (yK.zip yL)) = false := by simpa using hfo
        rw [hfo']
        have HE := hide' (mrgA_no (d := d) (a := (5, vn, vs, vK, vL)) (b := (5, yn, ys, yK, yL)) (fun h => hfo h.2.2))
        clear hfo hfo'
        obtain ⟨r0, r1, r2', r3', r4', rf⟩ := row5 HR6.out
        have f0 := rf 0
        have f1 := rf 1
        have f2 := rf 2
        have f3 := rf 3
        have f4 := rf 4
        clear rf
        go_wp2_with fail
        have hfin := row5 (set5_heap (j := 0) (.int .i64 0) (.int .i64 0) (.slice none 0 0) (.slice none 0 0) (.slice none 0 0) HR6.out)
        simp only [set5, Nat.zero_add] at hfin
        obtain ⟨o0, o1, o2, o3, o4, _⟩ := hfin
        refine bodyPost_ret (v := .tuple #[.agg #[.int .i64 0, .int .i64 0, .slice none 0 0, .slice none 0 0, .slice none 0 0], .bool false]) (by simp [results, Try.results20, go_sem, o0, o1, o2, o3, o4]) rfl ?_
        exact ans_nil HE.out HB6.out (by omega)
    · have HE := hide' (mrgA_no (d := d) (a := v) (b := x) (fun h => hnox ⟨h.2.1.1, h.2.1.2⟩))
      clear hnox hM2 b2'
      have HRo : Hid ((w2.alloc (.cells #[.map none] 60)).heap[w.heap.size + 1 + 1]? = some (.cells #[.int .i64 0, .int .i64 0, .slice none 0 0, .slice none 0 0, .slice none 0 0] 26 (0, 0))) := (Below.heap_alloc _ _ _ (by omega)).trans HR2.out
      have HBo : Hid (Below w.heap.size w (w2.alloc (.cells #[.map none] 60))) := HB2.out.alloc HB2.out.size _
      obtain ⟨r0, r1, r2', r3', r4', rf⟩ := row5 HRo.out
      have f0 := rf 0
      have f1 := rf 1
      have f2 := rf 2
      have f3 := rf 3
      have f4 := rf 4
      clear rf
      go_wp2_with fail
      have hfin := row5 (set5_heap (j := 0) (.int .i64 0) (.int .i64 0) (.slice none 0 0) (.slice none 0 0) (.slice none 0 0) HRo.out)
      simp only [set5, Nat.zero_add] at hfin
      obtain ⟨o0, o1, o2, o3, o4, _⟩ := hfin
      refine bodyPost_ret (v := .tuple #[.agg #[.int .i64 0, .int .i64 0, .slice none 0 0, .slice none 0 0, .slice none 0 0], .bool false]) (by simp [results, Try.results20, go_sem, o0, o1, o2, o3, o4]) rfl ?_
      exact ans_nil HE.out HBo.out (by omega)
  · have HPx := hide' (HX.out _ (HBA.out (.cells #[.map none] 60)))
    have HE := hide' (mrgA_no (d := d) (a := v) (b := x) (fun h => hno ⟨h.1.1, h.1.2⟩))
    clear hX1 hR1 hB1 b1 hno HX
    go_wp2_with fail
    refine HPx.out.mono ?_
    rintro e w2 ⟨b2', hcase2⟩
    have hz2 : w1.heap.size + 1 ≤ w2.heap.size := by have h := b2'.size; simpa using h
    have HB2 := hide' (Below.on (HBA.out _) b2')
    have HR2 := hide' ((b2'.block (w.heap.size + 1 + 1) (by simp; omega)).trans ((Below.heap_alloc _ _ _ (by omega)).trans HR1.out))
    clear HPx x0 x1 x2 x3 x4 b2'
    have he : ∃ mo f, e = .returned (.tuple #[.agg #[.map mo], .bool f]) := by rcases hcase2 with ⟨b', rfl, _⟩ | ⟨rfl, _⟩ <;> exact ⟨_, _, rfl⟩
    clear hcase2
    obtain ⟨mo, f, rfl⟩ := he
    have HRo : Hid ((w2.alloc (.cells #[.map mo] 60)).heap[w.heap.size + 1 + 1]? = some (.cells #[.int .i64 0, .int .i64 0, .slice none 0 0, .slice none 0 0, .slice none 0 0] 26 (0, 0))) := (Below.heap_alloc _ _ _ (by omega)).trans HR2.out
    have HBo : Hid (Below w.heap.size w (w2.alloc (.cells #[.map mo] 60))) := HB2.out.alloc HB2.out.size _
    obtain ⟨r0, r1, r2', r3', r4', rf⟩ := row5 HRo.out
    have f0 := rf 0
    have f1 := rf 1
    have f2 := rf 2
    have f3 := rf 3
    have f4 := rf 4
    clear rf
    go_wp2_with fail
    have hfin := row5 (set5_heap (j := 0) (.int .i64 0) (.int .i64 0) (.slice none 0 0) (.slice none 0 0) (.slice none 0 0) HRo.out)
    simp only [set5, Nat.zero_add] at hfin
    obtain ⟨o0, o1, o2, o3, o4, _⟩ := hfin
    refine bodyPost_ret (v := .tuple #[.agg #[.int .i64 0, .int .i64 0, .slice none 0 0, .slice none 0 0, .slice none 0 0], .bool false]) (by simp [results, Try.results20, go_sem, o0, o1, o2, o3, o4]) rfl ?_
    exact ans_nil HE.out HBo.out (by omega)
end Go.Proofs.Ytenfnbnhdmkhkaa
/-
  ValGet of the program: the walk.
-/
namespace Go.Proofs.Ytenfnbnhdmkhkaa
open Go.RowKit Go.Shelf
set_option linter.unusedVariables false
set_option linter.unusedSimpArgs false

set_option maxHeartbeats 3200000 in
set_option maxRecDepth 100000 in
theorem impl_ValGet_any (d N : Nat) (c0 c1 c2 c3 c4 : Value) (v : Vl (d + 1)) (ka : Option Addr) (kc : Nat) (key : List Int) (w : World) (hv : VSeg (fun b => b < N) w (d + 1) (c0, c1, c2, c3, c4) v) (hN : N ≤ w.heap.size) (hS : Seg w ka key) (hSb : ∀ x, ka = some x → key ≠ [] → x.block < w.heap.size) (hkl : key.length ≤ maxLen) :
    Calls Try.prog 15 #[.agg #[c0, c1, c2, c3, c4], .slice ka key.length kc] w (GetEnd d v key w) := by
  have HA : Hid (∀ o o' : Obj, Below w.heap.size w ((w.alloc o).alloc o') ∧ ((w.alloc o).alloc o').heap[w.heap.size + 1]? = some o') := fun o o' => ⟨((Below.refl _ _).alloc (Nat.le_refl _) o).alloc (by simp) o', by have := (MapKept.heap_alloc (w.alloc o) o').1; simpa using this⟩
  have HP : Hid (∀ o o' : Obj, Calls Try.prog 33 #[.agg #[c0, c1, c2, c3, c4]] ((w.alloc o).alloc o') (MapOf (d + 1) v ((w.alloc o).alloc o'))) := fun o o' => mapOf_any (d + 1) N c0 c1 c2 c3 c4 v _ (VSeg.agree (fun b (h : b < N) => (HA.out o o').1.block b (by omega)) (d + 1) hv) (by simp; omega)
  have HSg : Hid (∀ wx, Below w.heap.size w wx → Seg wx ka key) := fun wx hb => hS.below hb hSb
  have HByt : Hid (∀ y ∈ key, Byt y) := hS.1
  clear hv hS hSb
  go_enter Try.func15, Try.ntmps15
  go_wp2_with fail
  refine (HP.out _ _).mono ?_
  rintro e w1 ⟨b1, ⟨b, rfl, hok, hk, hp⟩ | ⟨rfl, hno⟩⟩
  · have hR1 : w1.heap[w.heap.size + 1]? = some (.cells #[.int .i64 0, .int .i64 0, .slice none 0 0, .slice none 0 0, .slice none 0 0] 26 (0, 0)) := (b1.block _ (by simp)).trans (HA.out _ _).2
    have hlt : w.heap.size + 1 < w1.heap.size := (Array.getElem?_eq_some_iff.1 hR1).1
    have hB1 := Below.on (HA.out _ _).1 b1
    have HBM : Hid (∀ o, Below w.heap.size w (w1.alloc o)) := fun o => hB1.alloc hB1.size o
    have HB1' := hide' hB1
    have hk5 : v.1 = 5 := hk
    obtain ⟨hbR, ps, hm, hc⟩ := mapPart_inv hp hk5
    have hok' := hok
    simp only [okB, Bool.and_eq_true, decide_eq_true_eq] at hok'
    obtain ⟨vk, vn, vs, vK, vL⟩ := v
    simp only at hk5 hm hc
    subst hk5
    obtain ⟨_, hsh, hgk⟩ := (good_succ _ _ _ _ _ _ _).1 hok'.1
    have hkid := parts_kid hok'.2
    obtain ⟨hKL, hasc⟩ := shape_mapB hsh
    have hst : ∀ i, i < vL.length → stepB vK i = true := by
      intro i hi
      rw [ascB, List.all_eq_true] at hasc
      exact hasc i (List.mem_range.2 (by omega))
    have hcv : ∀ o, (convert 22 9 (.slice ka key.length kc)).run Try.prog (w1.alloc o) = .ok (.string (strOf key)) (w1.alloc o) := fun o => conv_seg kc (HSg.out _ (HBM.out o))
    have HR1 := hide' hR1
    obtain ⟨k, hkK, hke, hkn, hfk⟩ | ⟨hnone, hfk⟩ := find_cases vK key
    · have hlk : ∀ o, (Instr.lookup 58 (.map (some b)) (.string (strOf key)) true).run Try.prog (w1.alloc o) = .ok (.tuple #[ps.getD k .nilIface, .bool true]) (w1.alloc o) := fun o => look_at (hm.alloc o) hst (fun i hi => (step_name (hst i hi)).1) HByt.out hkl (by omega) hkn hke
      have hkL : k < vL.length := by omega
      obtain ⟨pt, px, hpx⟩ := (hc k hkL).shape
      have hck := hc k hkL
      rw [hpx] at hlk hck
      have HV : Hid (∀ o, Calls Try.prog 34 #[.iface pt px] (w1.alloc o) (ValEnd d (vL[k]'hkL) (w1.alloc o))) := fun o => valueOf_any d w1.heap.size _ _ (1 + 1) _ (PSeg.carry (fun b' h => h.2) (fun b' h => Below.heap_alloc w1 o b' h.2) d hck) (by simp) (hgk k hkL) (hkid k hkL)
      have HF := hide' (And.intro hok (And.intro hfk hKL))
      clear hp hm hc hsh hgk hkid hasc hst hR1 hB1 b1 hok hok' hck hkn hke hfk HP
      generalize hsx : strOf key = sx at *
      go_wp2_with fail
      refine (HV.out _).mono ?_
      rintro e w2 ⟨u0, u1, u2, u3, u4, rfl, B, hO, hB, hb2⟩
      obtain ⟨uk, un, s2, n2, r2, s3, n3, r3, s4, n4, r4, rfl, rfl, rfl, rfl, rfl⟩ := VOwn.form d hO
      have hR2 : w2.heap[w.heap.size + 1]? = some (.cells #[.int .i64 0, .int .i64 0, .slice none 0 0, .slice none 0 0, .slice none 0 0] 26 (0, 0)) := (hb2.block _ (by simp; omega)).trans ((Below.heap_alloc _ _ _ hlt).trans HR1.out)
      obtain ⟨r0', r1', r2', r3', r4', rf⟩ := row5 hR2
      have f0 := rf 0
      have f1 := rf 1
      have f2 := rf 2
      have f3 := rf 3
      have f4 := rf 4
      have hz2 := hb2.size
      simp at hz2
      have hBf := Below.on (HBM.out _) hb2
      have HR2 := hide' hR2
      have HO := hide' hO
      have HB := hide' hB
      have HBf := hide' hBf
      clear rf hR2 hO hB hBf hb2 HV
      go_wp2_with fail
      have hrow := set5_heap (j := 0) (.int .i64 uk) (.int .i64 un) (.slice s2 n2 r2) (.slice s3 n3 r3) (.slice s4 n4 r4) HR2.out
      have hfin := row5 hrow
      simp only [set5, Nat.zero_add] at hfin
      obtain ⟨y0, y1, y2, y3, y4, _⟩ := hfin
      refine bodyPost_ret (v := .tuple #[.agg #[.int .i64 uk, .int .i64 un, .slice s2 n2 r2, .slice s3 n3 r3, .slice s4 n4 r4], .bool true]) (by simp [results, Try.results15, go_sem, y0, y1, y2, y3, y4]) rfl ?_
      have hB5 := set5_grown w2 (w.heap.size + 1) 0 (.int .i64 uk) (.int .i64 un) (.slice s2 n2 r2) (.slice s3 n3 r3) (.slice s4 n4 r4)
      have hsz4 := set5_size w2 (w.heap.size + 1) 0 (.int .i64 uk) (.int .i64 un) (.slice s2 n2 r2) (.slice s3 n3 r3) (.slice s4 n4 r4)
      have hbd : ∀ b ∈ B, w1.heap.size + 1 ≤ b ∧ b < w2.heap.size := fun b hb => by have := HB.out b hb; simp at this; exact this
      refine ⟨HBf.out.grown hB5 (by omega) (by intro j hj; simp at hj; omega), .inl ⟨k, hkL, HF.out.1, rfl, HF.out.2.1, _, _, _, _, _, rfl, B, ?_, fun b hb => ?_⟩⟩
      · exact VOwn.agree d HO.out fun b hb => hB5.block b (hbd b hb).2 (by have := hbd b hb; simp; omega)
      · have := hbd b hb
        show w.heap.size ≤ b ∧ b < (set5 _ _ _ _ _ _ _ _).heap.size
        omega
    · have hlk : ∀ o, (Instr.lookup 58 (.map (some b)) (.string (strOf key)) true).run Try.prog (w1.alloc o) = .ok (.tuple #[.nilIface, .bool false]) (w1.alloc o) := fun o => look_none (hm.alloc o) hst (fun i hi => (step_name (hst i hi)).1) HByt.out hkl (fun i hi => hnone i (by omega))
      have HF := hide' hfk
      clear hp hm hc hsh hgk hkid hasc hst hR1 hB1 b1 hok hok' hnone hfk HP
      generalize hsx : strOf key = sx at *
      obtain ⟨r0, r1, r2, r3, r4, rf⟩ := row5 HR1.out
      have f0 := rf 0
      have f1 := rf 1
      have f2 := rf 2
      have f3 := rf 3
      have f4 := rf 4
      obtain ⟨s0, s1, s2, s3, s4, sf⟩ := box_later HR1.out
      clear rf
      go_wp2_with fail
      have hfin := box_later (set5_heap (j := 0) (.int .i64 0) (.int .i64 0) (.slice none 0 0) (.slice none 0 0) (.slice none 0 0) HR1.out)
      simp only [set5, Nat.zero_add] at hfin
      obtain ⟨y0, y1, y2, y3, y4, _⟩ := hfin
      refine bodyPost_ret (v := .tuple #[.agg #[.int .i64 0, .int .i64 0, .slice none 0 0, .slice none 0 0, .slice none 0 0], .bool false]) (by simp [results, Try.results15, go_sem, y0, y1, y2, y3, y4]) rfl ?_
      have hB5 := set5_grown w1 (w.heap.size + 1) 0 (.int .i64 0) (.int .i64 0) (.slice none 0 0) (.slice none 0 0) (.slice none 0 0)
      have hsz4 := set5_size w1 (w.heap.size + 1) 0 (.int .i64 0) (.int .i64 0) (.slice none 0 0) (.slice none 0 0) (.slice none 0 0)
      exact ⟨(HB1'.out.grown hB5 (by omega) (by intro j hj; simp at hj; omega)).alloc (by omega) _, .inr ⟨fun h => by have h3 := h.2.2; simp only at h3; rw [HF.out] at h3; omega, rfl⟩⟩
  · have hR1 : w1.heap[w.heap.size + 1]? = some (.cells #[.int .i64 0, .int .i64 0, .slice none 0 0, .slice none 0 0, .slice none 0 0] 26 (0, 0)) := (b1.block _ (by simp)).trans (HA.out _ _).2
    have hlt : w.heap.size + 1 < w1.heap.size := (Array.getElem?_eq_some_iff.1 hR1).1
    have hB1 := Below.on (HA.out _ _).1 b1
    have HBM : Hid (∀ o, Below w.heap.size w (w1.alloc o)) := fun o => hB1.alloc hB1.size o
    have HB1' := hide' hB1
    have HR1 := hide' hR1
    have HF := hide' hno
    clear hR1 hB1 b1 hno HP
    obtain ⟨r0, r1, r2, r3, r4, rf⟩ := row5 HR1.out
    have f0 := rf 0
    have f1 := rf 1
    have f2 := rf 2
    have f3 := rf 3
    have f4 := rf 4
    obtain ⟨s0, s1, s2, s3, s4, sf⟩ := box_later HR1.out
    clear rf
    go_wp2_with fail
    have hfin := box_later (set5_heap (j := 0) (.int .i64 0) (.int .i64 0) (.slice none 0 0) (.slice none 0 0) (.slice none 0 0) HR1.out)
    simp only [set5, Nat.zero_add] at hfin
    obtain ⟨y0, y1, y2, y3, y4, _⟩ := hfin
    refine bodyPost_ret (v := .tuple #[.agg #[.int .i64 0, .int .i64 0, .slice none 0 0, .slice none 0 0, .slice none 0 0], .bool false]) (by simp [results, Try.results15, go_sem, y0, y1, y2, y3, y4]) rfl ?_
    have hB5 := set5_grown w1 (w.heap.size + 1) 0 (.int .i64 0) (.int .i64 0) (.slice none 0 0) (.slice none 0 0) (.slice none 0 0)
    have hsz4 := set5_size w1 (w.heap.size + 1) 0 (.int .i64 0) (.int .i64 0) (.slice none 0 0) (.slice none 0 0) (.slice none 0 0)
    exact ⟨(HB1'.out.grown hB5 (by omega) (by intro j hj; simp at hj; omega)).alloc (by omega) _, .inr ⟨fun h => HF.out ⟨h.1, h.2.1⟩, rfl⟩⟩
end Go.Proofs.Ytenfnbnhdmkhkaa
/-
  ValKeys of the program: the keys of a map, of the call's own.
-/
namespace Go.Proofs.Ytenfnbnhdmkhkaa
open Go.RowKit Go.Shelf
set_option linter.unusedVariables false
set_option linter.unusedSimpArgs false

/-- The keys of a value that may be. -/
def keysV : (d : Nat) → Vl d → List (List Int)
  | 0, _ => []
  | d + 1, v => if okB (d + 1) v = true then v.2.2.2.1 else []

theorem keys_no {d : Nat} {v : Vl d} (h : ¬ (okB d v = true ∧ kindV d v = 5)) : keysV d v = [] := by
  cases d with
  | zero => rfl
  | succ d =>
    obtain ⟨vk, vn, vs, vK, vL⟩ := v
    show (if okB (d + 1) (vk, vn, vs, vK, vL) = true then vK else []) = []
    by_cases hok : okB (d + 1) (vk, vn, vs, vK, vL) = true
    · rw [if_pos hok]
      have hk : vk ≠ 5 := fun e => h ⟨hok, e⟩
      simp only [okB, Bool.and_eq_true] at hok
      obtain ⟨_, hsh, _⟩ := (good_succ _ _ _ _ _ _ _).1 hok.1
      rcases (shape_zero hsh).2.2.1 with h5 | h5
      · exact absurd h5 hk
      · exact h5
    · rw [if_neg hok]

theorem field_K (c0 c1 c2 c3 c4 : Value) (h0 : c0.cells.size = 1) (h1 : c1.cells.size = 1) (h2 : c2.cells.size = 1) (h3 : c3.cells.size = 1) (h4 : c4.cells.size = 1) (w : World) : (Instr.field 26 (.agg #[c0, c1, c2, c3, c4]) 3).run Try.prog w = .ok c3 w := by kernel_rfl

/-- What ValKeys leaves. -/
def KeyEnd (d : Nat) (v : Vl d) (w : World) (e : Ending) (w' : World) : Prop := ∃ u, e = .returned u ∧ ∃ B, KOwn w' u (keysV d v) B ∧ (∀ b ∈ B, w.heap.size ≤ b ∧ b < w'.heap.size) ∧ Below w.heap.size w w'

set_option maxHeartbeats 1600000 in
set_option maxRecDepth 100000 in
theorem impl_ValKeys_any (d N : Nat) (c0 c1 c2 c3 c4 : Value) (v : Vl d) (w : World) (hv : VSeg (fun b => b < N) w d (c0, c1, c2, c3, c4) v) (hN : N ≤ w.heap.size) :
    Calls Try.prog 21 #[.agg #[c0, c1, c2, c3, c4]] w (KeyEnd d v w) := by
  have HA : Hid (∀ o : Obj, Below w.heap.size w (w.alloc o)) := fun o => (Below.refl _ _).alloc (Nat.le_refl _) o
  have HP : Hid (∀ o : Obj, Calls Try.prog 33 #[.agg #[c0, c1, c2, c3, c4]] (w.alloc o) (MapOf d v (w.alloc o))) := fun o => mapOf_any d N c0 c1 c2 c3 c4 v _ (VSeg.agree (fun b (h : b < N) => (HA.out o).block b (by omega)) d hv) (by simp; omega)
  clear hv
  go_enter Try.func21, Try.ntmps21
  go_wp2_with fail
  refine (HP.out _).mono ?_
  rintro e w1 ⟨b1, ⟨b, rfl, hok, hk, hp⟩ | ⟨rfl, hno⟩⟩
  · have hB1 := Below.on (HA.out _) b1
    have HB1 := hide' hB1
    have HV : Hid (∀ o : Obj, Calls Try.prog 34 #[.iface 60 (.agg #[.map (some b)])] (w1.alloc o) (ValEnd d v (w1.alloc o))) := by
      intro o
      simp only [okB, Bool.and_eq_true, decide_eq_true_eq] at hok
      refine valueOf_any d w1.heap.size _ v 1 _ (PSeg.carry (fun b' h => h.2) (fun b' h => Below.heap_alloc w1 o b' h.2) d hp) (by simp) hok.1 hok.2
    have HBo : Hid (∀ o : Obj, Below w.heap.size w (w1.alloc o)) := fun o => hB1.alloc hB1.size o
    have Hok := hide' hok
    clear hB1 hp HP b1 hok
    go_wp2_with fail
    refine (HV.out _).mono ?_
    rintro e w2 ⟨u0, u1, u2, u3, u4, rfl, B, hO, hB, hb2⟩
    have hbn := hide' (Below.on (HBo.out _) hb2)
    obtain ⟨uk, un, s2, n2, r2, s3, n3, r3, s4, n4, r4, rfl, rfl, rfl, rfl, rfl⟩ := VOwn.form d hO
    replace hO := hide' hO
    replace hB := hide' hB
    clear hb2
    have hfK := field_K (.int .i64 uk) (.int .i64 un) (.slice s2 n2 r2) (.slice s3 n3 r3) (.slice s4 n4 r4) rfl rfl rfl rfl rfl
    go_wp2_with fail
    go_ret
    cases d with
    | zero => exact hO.out.elim
    | succ d =>
      obtain ⟨_, _, Bs, Bk, Bl, _, hK, _, rfl, _⟩ := (VOwn_succ _ _ _ _ _).1 hO.out
      have hkeys : keysV (d + 1) v = v.2.2.2.1 := if_pos Hok.out
      refine ⟨_, rfl, Bk, by rw [hkeys]; exact hK, fun b' hb' => ?_, hbn.out⟩
      have h1 := hB.out b' (by simp [hb'])
      have h2 := (HBo.out (.cells #[.map (some b)] 60)).size
      omega
  · have hB1 := Below.on (HA.out _) b1
    have HBo : Hid (∀ o : Obj, Below w.heap.size w (w1.alloc o)) := fun o => hB1.alloc hB1.size o
    have hkn := hide' (keys_no hno)
    clear hno HP b1 hB1
    go_wp2_with fail
    go_ret
    exact ⟨_, rfl, [], by rw [hkn.out]; exact kNil _, by simp, HBo.out _⟩
end Go.Proofs.Ytenfnbnhdmkhkaa
/-
  What FnMerges is answered behind its draws, in every world that keeps all blocks. No statement is proved here.
-/
namespace Go.Proofs.Ytenfnbnhdmkhkaa
open Go.RowKit Go.Shelf
set_option linter.unusedVariables false
set_option linter.unusedSimpArgs false

/-- The cells of a value, as a call is handed them. -/
abbrev av (c : Value × Value × Value × Value × Value) : Value := .agg #[c.1, c.2.1, c.2.2.1, c.2.2.2.1, c.2.2.2.2]
/-- .. and as they lie in a box. -/
abbrev bx (c : Value × Value × Value × Value × Value) : Obj := .cells #[c.1, c.2.1, c.2.2.1, c.2.2.2.1, c.2.2.2.2] 26 (0, 0)

/-- Two that can be read, read at one depth that is not none. -/
theorem rd_two {w : World} {c d : Value × Value × Value × Value × Value} (h1 : Rd w c) (h2 : Rd w d) : ∃ D, ∃ va vb : Vl (D + 1), VSeg (fun b => b < w.heap.size) w (D + 1) c va ∧ VSeg (fun b => b < w.heap.size) w (D + 1) d vb := by
  obtain ⟨D1, v1, g1⟩ := h1
  obtain ⟨D2, v2, g2⟩ := h2
  obtain ⟨u1, k1⟩ := g1.at_least (D := D1 + D2 + 1) (by omega)
  obtain ⟨u2, k2⟩ := g2.at_least (D := D1 + D2 + 1) (by omega)
  exact ⟨_, u1, u2, k1, k2⟩

/-- A value that stands: its box, and that it is read, in every later world. -/
structure Std (D : Nat) (W : World) (g : Nat) (c : Value × Value × Value × Value × Value) (v : Vl D) : Prop where
  row : ∀ wx, Below W.heap.size W wx → wx.heap[g]? = some (bx c)
  seg : ∀ wx, Below W.heap.size W wx → VSeg (fun b => b < W.heap.size) wx D c v
theorem Std.of {D : Nat} {W : World} {g : Nat} {c : Value × Value × Value × Value × Value} {v : Vl D} (h : W.heap[g]? = some (bx c)) (hv : VSeg (fun b => b < W.heap.size) W D c v) : Std D W g c v :=
  ⟨fun wx hb => (hb.block g (Array.getElem?_eq_some_iff.1 h).1).trans h, fun wx hb => VSeg.agree (agree_below hb) D hv⟩
theorem Std.on {D : Nat} {W W' : World} {g : Nat} {c : Value × Value × Value × Value × Value} {v : Vl D} (h : Std D W g c v) (hb : Below W.heap.size W W') : Std D W' g c v :=
  Std.of (h.row W' hb) (VSeg.mono (fun b hb' => Nat.lt_of_lt_of_le hb' hb.size) D (h.seg W' hb))

theorem below_out {W wx w' : World} (h : Below W.heap.size W wx) (k : Below wx.heap.size wx w') : Below W.heap.size W w' := h.trans (k.mono h.size)

/-- Merging two that stand. -/
theorem Std.merge {D : Nat} {W : World} {ga gb : Nat} {a b : Value × Value × Value × Value × Value} {va vb : Vl (D + 1)} (ha : Std (D + 1) W ga a va) (hb : Std (D + 1) W gb b vb) : ∀ wx, Below W.heap.size W wx →
    Calls Try.prog 20 #[av a, av b] wx fun e w' => ∃ u0 u1 u2 u3 u4, e = .returned (.tuple #[.agg #[u0, u1, u2, u3, u4], .bool (mrgF D va vb)]) ∧ VSeg (fun b => b < w'.heap.size) w' (D + 1) (u0, u1, u2, u3, u4) (mrgA D va vb) ∧ Below W.heap.size W w' := fun wx h =>
  (impl_ValMerge_any D W.heap.size _ _ _ _ _ _ _ _ _ _ va vb wx (ha.seg wx h) (hb.seg wx h) h.size).mono fun e w' ⟨u0, u1, u2, u3, u4, he, B, hO, _, hk⟩ => ⟨u0, u1, u2, u3, u4, he, hO.read, below_out h hk⟩

/-- The keys of one that stands. -/
theorem Std.keys {D : Nat} {W : World} {g : Nat} {a : Value × Value × Value × Value × Value} {va : Vl D} (ha : Std D W g a va) : ∀ wx, Below W.heap.size W wx →
    Calls Try.prog 21 #[av a] wx fun e w' => ∃ u, e = .returned u ∧ KSeg (fun b => b < w'.heap.size) w' u (keysV D va) ∧ Below W.heap.size W w' := fun wx h =>
  (impl_ValKeys_any D W.heap.size _ _ _ _ _ va wx (ha.seg wx h) h.size).mono fun e w' ⟨u, he, B, hO, _, hk⟩ => ⟨u, he, hO.read, below_out h hk⟩

/-- Are two that stand the same. -/
theorem Std.same {D : Nat} {W : World} {ga gb : Nat} {a b : Value × Value × Value × Value × Value} {va vb : Vl D} (ha : Std D W ga a va) (hb : Std D W gb b vb) : ∀ wx, Below W.heap.size W wx →
    Calls Try.prog 11 #[av a, av b] wx fun e w' => e = .returned (.bool (sameV D va vb)) ∧ Below W.heap.size W w' := fun wx h =>
  (same_any D W.heap.size _ _ _ _ _ _ _ _ _ _ va vb wx (ha.seg wx h) (hb.seg wx h) h.size).mono fun e w' ⟨he, hk⟩ => ⟨he, below_out h hk⟩

/-- What ValGet answers: found, with what stands there; or not. -/
def GotEnd (D : Nat) (W : World) (v : Vl (D + 1)) (key : List Int) (e : Ending) (w' : World) : Prop :=
  Below W.heap.size W w' ∧ ∃ u0 u1 u2 u3 u4 bo, e = .returned (.tuple #[.agg #[u0, u1, u2, u3, u4], .bool bo]) ∧
    ((bo = true ∧ ∃ (k : Nat) (hk : k < v.2.2.2.2.length), findK v.2.2.2.1 key = k ∧ VSeg (fun b => b < w'.heap.size) w' D (u0, u1, u2, u3, u4) v.2.2.2.2[k]) ∨ (bo = false ∧ ¬ (okB (D + 1) v = true ∧ v.1 = 5 ∧ 0 ≤ findK v.2.2.2.1 key) ∧ (u0, u1, u2, u3, u4) = (Value.int .i64 0, Value.int .i64 0, Value.slice none 0 0, Value.slice none 0 0, Value.slice none 0 0)))
theorem Std.get {D : Nat} {W : World} {g : Nat} {a : Value × Value × Value × Value × Value} {va : Vl (D + 1)} {ka : Option Addr} {kc : Nat} {key : List Int} (ha : Std (D + 1) W g a va) (hS : Seg W ka key) (hSb : ∀ x, ka = some x → key ≠ [] → x.block < W.heap.size) (hl : key.length ≤ maxLen) : ∀ wx, Below W.heap.size W wx →
    Calls Try.prog 15 #[av a, .slice ka key.length kc] wx (GotEnd D W va key) := fun wx h =>
  (impl_ValGet_any D W.heap.size _ _ _ _ _ va ka kc key wx (ha.seg wx h) h.size (hS.below h hSb) (fun x hx hne => Nat.lt_of_lt_of_le (hSb x hx hne) h.size) hl).mono fun e w' ⟨hk, he⟩ => by
    refine ⟨below_out h hk, ?_⟩
    rcases he with ⟨k, hk', _, _, hf, u0, u1, u2, u3, u4, rfl, B, hO, _⟩ | ⟨hn, rfl⟩
    · exact ⟨u0, u1, u2, u3, u4, true, rfl, .inl ⟨rfl, k, hk', hf, hO.read⟩⟩
    · exact ⟨_, _, _, _, _, false, rfl, .inr ⟨rfl, hn, rfl⟩⟩
end Go.Proofs.Ytenfnbnhdmkhkaa
/-
  A map of one key that is written out, as FnMerges writes it. No statement is proved here.
-/
namespace Go.Proofs.Ytenfnbnhdmkhkaa
open Go.RowKit Go.Shelf
set_option linter.unusedVariables false
set_option linter.unusedSimpArgs false

/-- The map with the one key "a". -/
def oneA : Vl 2 := ((5 : Int), (0 : Int), ([] : List Int), [[97]], [((0 : Int), (0 : Int), ([] : List Int), ([] : List (List Int)), ([] : List (Vl 0)))])
theorem oneA_keys : keysV 2 oneA = [[97]] := by decide
abbrev wA (w : World) : World := ((w.alloc (.cells #[.int .u8 97] 5 (1, 2))).alloc (.cells #[.slice (some ⟨w.heap.size, 0, none⟩) 1 1] 22)).alloc (.cells #[.int .i64 0, .int .i64 0, .slice none 0 0, .slice none 0 0, .slice none 0 0] 26)
theorem oneA_rows (w : World) : (wA w).heap[w.heap.size]? = some (.cells #[.int .u8 97] 5 (1, 2)) ∧ (wA w).heap[w.heap.size + 1]? = some (.cells #[.slice (some ⟨w.heap.size, 0, none⟩) 1 1] 22 (0, 0)) ∧ (wA w).heap[w.heap.size + 2]? = some (.cells #[.int .i64 0, .int .i64 0, .slice none 0 0, .slice none 0 0, .slice none 0 0] 26 (0, 0)) ∧ (wA w).heap.size = w.heap.size + 3 := by
  refine ⟨?_, ?_, ?_, by simp [wA]⟩
  · exact (Below.heap_alloc _ _ _ (by simp <;> omega)).trans ((Below.heap_alloc _ _ _ (by simp)).trans (heap_alloc_new w _))
  · refine (Below.heap_alloc _ _ _ (by simp)).trans ?_
    have := heap_alloc_new (w.alloc (.cells #[.int .u8 97] 5 (1, 2))) (.cells #[.slice (some ⟨w.heap.size, 0, none⟩) 1 1] 22)
    simpa using this
  · have := heap_alloc_new ((w.alloc (.cells #[.int .u8 97] 5 (1, 2))).alloc (.cells #[.slice (some ⟨w.heap.size, 0, none⟩) 1 1] 22)) (.cells #[.int .i64 0, .int .i64 0, .slice none 0 0, .slice none 0 0, .slice none 0 0] 26)
    simpa using this
theorem row_one {w : World} {g : Nat} {v : Value} {T : TypeId} {fr : Nat × Nat} (h : w.heap[g]? = some (.cells #[v] T fr)) : w.cell? ⟨g, 0, none⟩ = some v := by
  simp [World.cell?, h]
theorem oneA_seg (w : World) : VSeg (fun b => b < (wA w).heap.size) (wA w) 2 (.int .i64 5, .int .i64 0, .slice none 0 0, .slice (some ⟨w.heap.size + 1, 0, none⟩) 1 1, .slice (some ⟨w.heap.size + 1 + 1, 0, none⟩) 1 1) oneA := by
  obtain ⟨h1, h2, h3, hz⟩ := oneA_rows w
  have c1 := row_one h1
  have c2 := row_one h2
  obtain ⟨c30, c31, c32, c33, c34, _⟩ := row5 h3
  generalize wA w = W at *
  have ht : TSeg (fun b => b < W.heap.size) W (.slice (some ⟨w.heap.size, 0, none⟩) 1 1) [97] := by
    refine ⟨_, 1, rfl, ⟨by intro x hx; simp at hx; subst hx; unfold Byt; omega, .inr ⟨w.heap.size, 0, rfl, fun i hi => ?_⟩⟩, Nat.le_refl _, by decide, by simp, fun x hx _ => ?_⟩
    · have : i = 0 := by simpa using hi
      subst this
      simpa using c1
    · simp only [Option.some.injEq] at hx; subst hx; show w.heap.size < W.heap.size; omega
  refine (VSeg_succ _ _ _ _ _).2 ⟨rfl, rfl, ⟨none, 0, rfl, ⟨by simp [oneA], .inl rfl⟩, Nat.le_refl _, by decide, fun _ => rfl, by simp⟩, ⟨_, 1, rfl, Nat.le_refl _, by decide, by simp, .inr ⟨w.heap.size + 1, 0, rfl, by omega, fun i hi => ?_⟩⟩, ⟨_, 1, rfl, Nat.le_refl _, by decide, by simp, .inr ⟨w.heap.size + 2, 0, rfl, by omega, fun i hi => ?_⟩⟩⟩
  · have : i = 0 := by simpa [oneA] using hi
    subst this
    exact ⟨_, by simpa using c2, ht⟩
  · have : i = 0 := by
      have hi' : i < 1 := hi
      omega
    subst this
    refine ⟨(.int .i64 0, .int .i64 0, .slice none 0 0, .slice none 0 0, .slice none 0 0), ⟨by simpa using c30, by simpa using c31, by simpa using c32, by simpa using c33, by simpa using c34⟩, ?_⟩
    show VSeg _ W 1 _ (((0 : Int), (0 : Int), ([] : List Int), ([] : List (List Int)), ([] : List (Vl 0))) : Vl 1)
    exact (VSeg_succ _ _ _ _ _).2 ⟨rfl, rfl, ⟨none, 0, rfl, ⟨by simp, .inl rfl⟩, Nat.le_refl _, by decide, fun _ => rfl, by simp⟩, ⟨none, 0, rfl, Nat.le_refl _, by decide, fun _ => rfl, .inl rfl⟩, ⟨none, 0, rfl, Nat.le_refl _, by decide, fun _ => rfl, .inl rfl⟩⟩
end Go.Proofs.Ytenfnbnhdmkhkaa
/-
  Two maps that are drawn and bent (DrawValMerge). No statement is proved here.
-/
namespace Go.Proofs.Ytenfnbnhdmkhkaa
open Go.RowKit
set_option linter.unusedVariables false
set_option linter.unusedSimpArgs false

set_option maxHeartbeats 3200000 in
set_option maxRecDepth 100000 in
theorem DrawValMerge_any (a : Option Addr) (cap : Nat) (cs : List Int) (w : World) (ha : Seg w a cs) (hl : cs.length ≤ maxLen) : Calls Try.prog 19 #[.slice a cs.length cap] w (PairEnd w) := by
  have hb0 : Below w.heap.size w ((w.alloc (.cells #[.int .i64 0, .int .i64 0, .slice none 0 0, .slice none 0 0, .slice none 0 0] 26)).alloc (.cells #[.int .i64 0, .int .i64 0, .slice none 0 0, .slice none 0 0, .slice none 0 0] 26)) := ((Below.refl _ w).alloc (Nat.le_refl _) _).alloc (by simp) _
  have hR10 : ((w.alloc (.cells #[.int .i64 0, .int .i64 0, .slice none 0 0, .slice none 0 0, .slice none 0 0] 26)).alloc (.cells #[.int .i64 0, .int .i64 0, .slice none 0 0, .slice none 0 0, .slice none 0 0] 26)).heap[w.heap.size]? = some (.cells #[.int .i64 0, .int .i64 0, .slice none 0 0, .slice none 0 0, .slice none 0 0] 26) := (Below.heap_alloc _ _ _ (by simp)).trans (heap_alloc_new w _)
  have hR20 : ((w.alloc (.cells #[.int .i64 0, .int .i64 0, .slice none 0 0, .slice none 0 0, .slice none 0 0] 26)).alloc (.cells #[.int .i64 0, .int .i64 0, .slice none 0 0, .slice none 0 0, .slice none 0 0] 26)).heap[w.heap.size + 1]? = some (.cells #[.int .i64 0, .int .i64 0, .slice none 0 0, .slice none 0 0, .slice none 0 0] 26) := by
    have := heap_alloc_new (w.alloc (.cells #[.int .i64 0, .int .i64 0, .slice none 0 0, .slice none 0 0, .slice none 0 0] 26)) (.cells #[.int .i64 0, .int .i64 0, .slice none 0 0, .slice none 0 0, .slice none 0 0] 26)
    simpa using this
  have hN := l1New_hs 64 a cap cs ((w.alloc (.cells #[.int .i64 0, .int .i64 0, .slice none 0 0, .slice none 0 0, .slice none 0 0] 26)).alloc (.cells #[.int .i64 0, .int .i64 0, .slice none 0 0, .slice none 0 0, .slice none 0 0] 26)) (ha.grow hb0) hl
  simp only [World.size_alloc] at hN
  have HN := hide' hN
  have H0 := hide' (And.intro hb0 (And.intro hR10 hR20))
  clear hN hb0 hR10 hR20
  generalize cs.length = cl at *
  go_enter Try.func19, Try.ntmps19
  go_wp2_with fail
  refine HN.out.mono ?_
  rintro e w1 ⟨rfl, hS1, hB1⟩
  have HB1 : Hid (Below w.heap.size w w1) := hide' ⟨hB1.os.trans H0.out.1.os, hB1.tape.trans H0.out.1.tape, hB1.output.trans H0.out.1.output, by have := hB1.size; simp at this; omega, fun b hb => (hB1.block b (by first | omega | (simp <;> omega))).trans (H0.out.1.block b hb)⟩
  have HR11 := hide' ((hB1.block w.heap.size (by first | omega | (simp <;> omega))).trans H0.out.2.1)
  have HR21 := hide' ((hB1.block (w.heap.size + 1) (by first | omega | (simp <;> omega))).trans H0.out.2.2)
  have hz1 : w.heap.size + 1 + 1 < w1.heap.size := hS1.lt
  have H2 := hide' (l2map_hs _ 64 _ _ _ _ _ w1 hS1 (by omega) (by omega))
  clear HN H0 hB1 hS1
  go_wp2_with fail
  refine H2.out.mono ?_
  rintro e w2 ⟨xk, xn, x2, y2, z2, x3, y3, z3, x4, y4, z4, rk2, rfl, hG2, hS2, hT2⟩
  have H3 := hide' (l2bent_hs _ 64 3 rk2 _ a cap cs xk xn x2 y2 z2 x3 y3 z3 x4 y4 z4 w2 hS2 hG2 (by omega) (by omega))
  have hz2 : w1.heap.size ≤ w2.heap.size := hT2.2.1.size
  have HB2 := hide' (HB1.out.grown hT2.2.1 HB1.out.size (by intro j hj; simp at hj; omega))
  have HR12 := hide' ((hT2.2.1.block w.heap.size (by omega) (by simp <;> omega)).trans HR11.out)
  have HR22 := hide' ((hT2.2.1.block (w.heap.size + 1) (by omega) (by simp <;> omega)).trans HR21.out)
  clear hG2 hS2 hT2 H2 HB1 HR11 HR21
  go_wp2_with fail
  refine H3.out.mono ?_
  rintro e w3 ⟨ak, an, a2, l2, p2, a3, l3, p3, a4, l4, p4, rk3, rfl, hG3, hS3, hB3, hR3, hSh3⟩
  have H4 := hide' (l2map_hs _ 65 rk3 _ a cap cs w3 hS3 (by omega) (by omega))
  have hz3 : w2.heap.size ≤ w3.heap.size := hB3.size
  have HB3 := hide' (HB2.out.trans (hB3.mono (by omega)))
  have HR13 := hide' ((hB3.block w.heap.size (by omega)).trans HR12.out)
  have HR23 := hide' ((hB3.block (w.heap.size + 1) (by omega)).trans HR22.out)
  have HG3 := hide' hG3
  clear hG3 hS3 hB3 hR3 hSh3 H3 HB2 HR12 HR22
  go_wp2_with fail
  refine H4.out.mono ?_
  rintro e w4 ⟨ck, cn, k2, j2, i2, k3, j3, i3, k4, j4, i4, rk4, rfl, hG4, hS4, hT4⟩
  have H5 := hide' (l2bent_hs _ 65 3 rk4 _ a cap cs ck cn k2 j2 i2 k3 j3 i3 k4 j4 i4 w4 hS4 hG4 (by omega) (by omega))
  have hz4 : w3.heap.size ≤ w4.heap.size := hT4.2.1.size
  have HB4 := hide' (HB3.out.grown hT4.2.1 HB3.out.size (by intro j hj; simp at hj; omega))
  have HR14 := hide' ((hT4.2.1.block w.heap.size (by omega) (by simp <;> omega)).trans HR13.out)
  have HR24 := hide' ((hT4.2.1.block (w.heap.size + 1) (by omega) (by simp <;> omega)).trans HR23.out)
  have HG4 := hide' (HG3.out.shp hT4.2.2 hT4.1 (Nat.le_refl _))
  clear hG4 hS4 hT4 H4 HB3 HR13 HR23 HG3
  have hne12 : w.heap.size ≠ w.heap.size + 1 := by omega
  go_wp2_with fail
  refine H5.out.mono ?_
  rintro e w5 ⟨bk, bn, b2, m2, q2, b3, m3, q3, b4, m4, q4, rk5, rfl, hG5, hS5, hB5, hR5, hSh5⟩
  have HPa := hide' (hS5.rd ((HG4.out.up.shp hSh5 hR5 (Nat.le_refl _)).more (Nat.le_succ 65)) (Nat.le_refl 66))
  have HPb := hide' (hS5.rd hG5 (Nat.le_refl _))
  have HBl : Hid (Below w.heap.size w w5) := hide' (HB4.out.trans (hB5.mono (by omega)))
  have HR1 := hide' ((hB5.block w.heap.size (by omega)).trans HR14.out)
  have HR2 := hide' ((hB5.block (w.heap.size + 1) (by omega)).trans HR24.out)
  obtain ⟨r0, r1, r2, r3, r4, rf⟩ := row5 HR1.out
  have f0 := rf 0
  have f1 := rf 1
  have f2 := rf 2
  have f3 := rf 3
  have f4 := rf 4
  obtain ⟨t0, t1, t2, t3, t4, tf⟩ := row5 HR2.out
  have h0 := tf 0
  have h1 := tf 1
  have h2 := tf 2
  have h3 := tf 3
  have h4 := tf 4
  clear rf tf hG5 hS5 hB5 hR5 hSh5 H5 HB4 HR14 HR24 HG4
  go_wp2_with fail
  obtain ⟨hF1, hF2⟩ := two_fin (.int .i64 ak) (.int .i64 an) (.slice a2 l2 p2) (.slice a3 l3 p3) (.slice a4 l4 p4) (.int .i64 bk) (.int .i64 bn) (.slice b2 m2 q2) (.slice b3 m3 q3) (.slice b4 m4 q4) HR1.out HR2.out hne12
  obtain ⟨o0, o1, o2, o3, o4, _⟩ := row5 hF1
  obtain ⟨s0, s1, s2, s3, s4, _⟩ := row5 hF2
  clear hF1 hF2
  simp only [set5, Nat.zero_add] at o0 o1 o2 o3 o4 s0 s1 s2 s3 s4
  refine bodyPost_ret (v := .tuple #[.agg #[.int .i64 ak, .int .i64 an, .slice a2 l2 p2, .slice a3 l3 p3, .slice a4 l4 p4], .agg #[.int .i64 bk, .int .i64 bn, .slice b2 m2 q2, .slice b3 m3 q3, .slice b4 m4 q4]]) (by simp [results, Try.results19, go_sem, o0, o1, o2, o3, o4, s0, s1, s2, s3, s4]; done) rfl ?_
  clear o0 o1 o2 o3 o4 s0 s1 s2 s3 s4
  have hE := pair_end HPa.out HPb.out HBl.out
  simp only [set5, Nat.zero_add] at hE
  with_reducible exact hE
end Go.Proofs.Ytenfnbnhdmkhkaa
