/-
  Texts that a law leans on, one behind the other; no statement is proved here.
-/
import Derived.Test.YtpknhmegoldppaaPk15
import Derived.Test.YtpknhmegoldppaaPk17
import Derived.Test.YtpknhmegoldppaaPk18
import Derived.Test.YtpknhmegoldppaaPk0
import Derived.Test.YtpknhmegoldppaaPk7
import Derived.WalkKit
import Derived.ProofKit
import Derived.ChangeSlices
import Derived.ChangeArms
/-
  ValSet of the specification, whatever it is handed, on its own memory; no statement is proved here.
-/
namespace Go.Proofs.Ytpknhmegoldppaa
open Go.RowKit Go.Shelf
set_option linter.unusedVariables false
set_option linter.unusedSimpArgs false

set_option maxHeartbeats 6400000 in
set_option maxRecDepth 100000 in
theorem spec_ValSet_any (d : Nat) (c0 c1 c2 c3 c4 e0 e1 e2 e3 e4 : Value) (v : Vl (d + 1)) (x : Vl d) (ka : Option Addr) (kc : Nat) (key : List Int) (w : World) (hv : VSeg (fun b => b < w.heap.size) w (d + 1) (c0, c1, c2, c3, c4) v) (hx : VSeg (fun b => b < w.heap.size) w d (e0, e1, e2, e3, e4) x) (hT : TSeg (fun b => b < w.heap.size) w (.slice ka key.length kc) key) (hz : szV (d + 1) v ≤ 1048576) :
    Calls Try.prog 7 #[.agg #[c0, c1, c2, c3, c4], .slice ka key.length kc, .agg #[e0, e1, e2, e3, e4]] w (Ans d (setA d v key x) (setF d v key x) w) := by
  have HV : Hid (∀ wx, Below w.heap.size w wx → VSeg (fun b => b < w.heap.size) wx (d + 1) (c0, c1, c2, c3, c4) v) := fun wx hb => VSeg.agree (agree_below hb) (d + 1) hv
  have HX : Hid (∀ wx, Below w.heap.size w wx → VSeg (fun b => b < w.heap.size) wx d (e0, e1, e2, e3, e4) x) := fun wx hb => VSeg.agree (agree_below hb) d hx
  have HT : Hid (∀ wx, Below w.heap.size w wx → TSeg (fun b => b < w.heap.size) wx (.slice ka key.length kc) key) := fun wx hb => hT.agree (agree_below hb)
  have HP : Hid (∀ wx, Below w.heap.size w wx → Calls Try.prog 27 #[.agg #[c0, c1, c2, c3, c4]] wx fun e w' => e = .returned (.bool (okB (d + 1) v)) ∧ Below wx.heap.size wx w') := fun wx hb => spec_ValOk_any (d + 1) w.heap.size _ _ _ _ _ v wx (HV.out wx hb) hb.size
  have HPx : Hid (∀ wx, Below w.heap.size w wx → Calls Try.prog 27 #[.agg #[e0, e1, e2, e3, e4]] wx fun e w' => e = .returned (.bool (okB d x)) ∧ Below wx.heap.size wx w') := fun wx hb => spec_ValOk_any d w.heap.size _ _ _ _ _ x wx (HX.out wx hb) hb.size
  have HZ := hide' hz
  obtain ⟨ck, cn, a2, l2, p2, a3, l3, p3, a4, l4, p4, rfl, rfl, rfl, rfl, rfl⟩ := VSeg.form (d + 1) hv
  obtain ⟨xk, xn, b2, m2, q2, b3, m3, q3, b4, m4, q4, rfl, rfl, rfl, rfl, rfl⟩ := VSeg.form d hx
  obtain ⟨vk, vn, vs, vK, vL⟩ := v
  have hck : ck = vk := by have h := ((VSeg_succ _ _ _ _ _).1 hv).1; simpa using h
  subst hck
  have H3 := hide' (boxes3 w (.cells #[.int .i64 ck, .int .i64 cn, .slice a2 l2 p2, .slice a3 l3 p3, .slice a4 l4 p4] 30) (.cells #[.int .i64 xk, .int .i64 xn, .slice b2 m2 q2, .slice b3 m3 q3, .slice b4 m4 q4] 30) (.cells #[.int .i64 0, .int .i64 0, .slice none 0 0, .slice none 0 0, .slice none 0 0] 30))
  clear hv hx hT hz
  go_enter Try.func7, Try.ntmps7
  go_wp2_with fail
  refine (HP.out _ H3.out.2.2.2.2).mono ?_
  rintro e w1 ⟨rfl, b1⟩
  obtain ⟨hP0, hX0, hR0, hs0, hB0⟩ := H3.out
  generalize (((w.alloc (.cells #[.int .i64 ck, .int .i64 cn, .slice a2 l2 p2, .slice a3 l3 p3, .slice a4 l4 p4] 30)).alloc (.cells #[.int .i64 xk, .int .i64 xn, .slice b2 m2 q2, .slice b3 m3 q3, .slice b4 m4 q4] 30)).alloc (.cells #[.int .i64 0, .int .i64 0, .slice none 0 0, .slice none 0 0, .slice none 0 0] 30)) = w0 at *
  have hz1 := b1.size
  have HP1 := hide' ((b1.block w.heap.size (by omega)).trans hP0)
  have HX1 := hide' ((b1.block (w.heap.size + 1) (by omega)).trans hX0)
  have HR1 := hide' ((b1.block (w.heap.size + 1 + 1) (by omega)).trans hR0)
  have HB1 : Hid (Below w.heap.size w w1) := hB0.trans (b1.mono (by omega))
  obtain ⟨t0, t1, t2, t3, t4, _⟩ := row5 HP1.out
  obtain ⟨y0, y1, y2, y3, y4, _⟩ := row5 HX1.out
  clear hP0 hX0 hR0 hB0 b1 HP H3
  by_cases hok : okB (d + 1) (ck, vn, vs, vK, vL) = true
  · rw [hok]
    by_cases hk5 : ck = 5
    · subst hk5
      have HPx1 := hide' (HPx.out w1 HB1.out)
      go_wp2_with fail
      refine HPx1.out.mono ?_
      rintro e w2 ⟨rfl, b2'⟩
      have hz2 := b2'.size
      have HP2 := hide' ((b2'.block w.heap.size (by omega)).trans HP1.out)
      have HX2 := hide' ((b2'.block (w.heap.size + 1) (by omega)).trans HX1.out)
      have HR2 := hide' ((b2'.block (w.heap.size + 1 + 1) (by omega)).trans HR1.out)
      have HB2 := hide' (Below.on HB1.out b2')
      clear b2' HPx1 t0 t1 t2 t3 t4 y0 y1 y2 y3 y4
      by_cases hokx : okB d x = true
      · rw [hokx]
        have Hok := hide' hok
        have Hokx := hide' hokx
        obtain ⟨hKL, hlen, hup, hbt, hkb⟩ := ok_keys hok
        have hw2 : ∀ b, b < w.heap.size → b < w2.heap.size := fun b hb => by omega
        have HSt := hide' (l2set_any d 5 cn a2 l2 p2 a3 l3 p3 a4 l4 p4 (5, vn, vs, vK, vL) xk xn b2 m2 q2 b3 m3 q3 b4 m4 q4 x ka kc key w2 (VSeg.mono hw2 (d + 1) (HV.out w2 HB2.out)) ((HT.out w2 HB2.out).mono hw2) (VSeg.mono hw2 d (HX.out w2 HB2.out)) hup hbt hKL (by show vK.length ≤ 1000; omega))
        obtain ⟨t0, t1, t2, t3, t4, _⟩ := row5 HP2.out
        obtain ⟨y0, y1, y2, y3, y4, _⟩ := row5 HX2.out
        clear hok hokx hKL hup hbt hkb hw2 hlen
        go_wp2_with fail
        refine HSt.out.mono ?_
        rintro e w3 ⟨g0, g1, g2, g3, g4, rfl, hM, hb3⟩
        obtain ⟨gk, gn, j2, i2, h2, j3, i3, h3, j4, i4, h4, rfl, rfl, rfl, rfl, rfl⟩ := VSeg.form (d + 1) hM
        have hz3 := hb3.size
        have bal : Below w3.heap.size w3 (w3.alloc (.cells #[.int .i64 gk, .int .i64 gn, .slice j2 i2 h2, .slice j3 i3 h3, .slice j4 i4 h4] 30)) := (Below.refl _ _).alloc (Nat.le_refl _) _
        have b23 := Below.on hb3 bal
        have HB3 := hide' (Below.on HB2.out b23)
        have HP3 := hide' ((b23.block w.heap.size (by omega)).trans HP2.out)
        have HR3 := hide' ((b23.block (w.heap.size + 1 + 1) (by omega)).trans HR2.out)
        have HN3 : Hid ((w3.alloc (.cells #[.int .i64 gk, .int .i64 gn, .slice j2 i2 h2, .slice j3 i3 h3, .slice j4 i4 h4] 30)).heap[w3.heap.size]? = some (.cells #[.int .i64 gk, .int .i64 gn, .slice j2 i2 h2, .slice j3 i3 h3, .slice j4 i4 h4] 30)) := (MapKept.heap_alloc w3 _).1
        have HM3 := hide' (VSeg.agree (agree_below bal) (d + 1) hM)
        have HOk3 := hide' (spec_ValOk_any (d + 1) w3.heap.size _ _ _ _ _ _ _ HM3.out bal.size)
        clear hM hb3 bal b23 HSt t0 t1 t2 t3 t4 y0 y1 y2 y3 y4
        go_wp2_with fail
        refine HOk3.out.mono ?_
        rintro e w4 ⟨rfl, b4'⟩
        have hz4 : w3.heap.size + 1 ≤ w4.heap.size := by have h := b4'.size; simpa using h
        have HB4 := hide' (Below.on HB3.out b4')
        have HP4 := hide' ((b4'.block w.heap.size (by simp; omega)).trans HP3.out)
        have HR4 := hide' ((b4'.block (w.heap.size + 1 + 1) (by simp; omega)).trans HR3.out)
        have HN4 := hide' ((b4'.block w3.heap.size (by simp)).trans HN3.out)
        have HM4 := hide' (VSeg.agree (fun b (h : b < w3.heap.size) => b4'.block b (by simp; omega)) (d + 1) HM3.out)
        clear HOk3 b4' HM3
        by_cases hfo : okB (d + 1) (setV d (5, vn, vs, vK, vL) key x) = true
        · rw [hfo]
          have HE := hide' (setA_yes (v := (5, vn, vs, vK, vL)) Hok.out rfl Hokx.out hfo)
          have hsz := ok_sz hfo
          clear hfo
          have HOw := hide' (l2own_any (d + 1) w3.heap.size _ _ _ _ _ _ w4 HM4.out (by omega) (by omega))
          obtain ⟨t0, t1, t2, t3, t4, _⟩ := row5 HN4.out
          go_wp2_with fail
          refine HOw.out.mono ?_
          rintro e w5 ⟨u0, u1, u2, u3, u4, rfl, B, hO, hB, hbn⟩
          obtain ⟨uk, un, s2, n2, r2, s3, n3, r3, s4, n4, r4, rfl, rfl, rfl, rfl, rfl⟩ := VOwn.form (d + 1) hO
          have HRn := hide' ((hbn.block (w.heap.size + 1 + 1) (by omega)).trans HR4.out)
          have HBn := hide' (Below.on HB4.out hbn)
          have HO := hide' hO
          have HB := hide' hB
          obtain ⟨r0, r1, r2', r3', r4', rf⟩ := row5 HRn.out
          have f0 := rf 0
          have f1 := rf 1
          have f2 := rf 2
          have f3 := rf 3
          have f4 := rf 4
          clear rf hO hB hbn HOw
          go_wp2_with fail
          have hfin := row5 (set5_heap (j := 0) (.int .i64 uk) (.int .i64 un) (.slice s2 n2 r2) (.slice s3 n3 r3) (.slice s4 n4 r4) HRn.out)
          simp only [set5, Nat.zero_add] at hfin
          obtain ⟨o0, o1, o2, o3, o4, _⟩ := hfin
          refine bodyPost_ret (v := .tuple #[.agg #[.int .i64 uk, .int .i64 un, .slice s2 n2 r2, .slice s3 n3 r3, .slice s4 n4 r4], .bool true]) (by simp [results, Try.results7, go_sem, o0, o1, o2, o3, o4]) rfl ?_
          exact ans_val HE.out HO.out (fun c hc => by have := HB.out c hc; omega) HBn.out (by omega)
        · have hfo' : okB (d + 1) (setV d (5, vn, vs, vK, vL) key x) = false := by simpa using hfo
          rw [hfo']
          have HE := hide' (setA_back (v := (5, vn, vs, vK, vL)) Hok.out rfl Hokx.out hfo)
          clear hfo hfo'
          have HOw := hide' (l2own_any (d + 1) w.heap.size _ _ _ _ _ _ w4 (HV.out w4 HB4.out) (by omega) HZ.out)
          obtain ⟨t0, t1, t2, t3, t4, _⟩ := row5 HP4.out
          go_wp2_with fail
          refine HOw.out.mono ?_
          rintro e w5 ⟨u0, u1, u2, u3, u4, rfl, B, hO, hB, hbn⟩
          obtain ⟨uk, un, s2, n2, r2, s3, n3, r3, s4, n4, r4, rfl, rfl, rfl, rfl, rfl⟩ := VOwn.form (d + 1) hO
          have HRn := hide' ((hbn.block (w.heap.size + 1 + 1) (by omega)).trans HR4.out)
          have HBn := hide' (Below.on HB4.out hbn)
          have HO := hide' hO
          have HB := hide' hB
          obtain ⟨r0, r1, r2', r3', r4', rf⟩ := row5 HRn.out
          have f0 := rf 0
          have f1 := rf 1
          have f2 := rf 2
          have f3 := rf 3
          have f4 := rf 4
          clear rf hO hB hbn HOw
          go_wp2_with fail
          have hfin := row5 (set5_heap (j := 0) (.int .i64 uk) (.int .i64 un) (.slice s2 n2 r2) (.slice s3 n3 r3) (.slice s4 n4 r4) HRn.out)
          simp only [set5, Nat.zero_add] at hfin
          obtain ⟨o0, o1, o2, o3, o4, _⟩ := hfin
          refine bodyPost_ret (v := .tuple #[.agg #[.int .i64 uk, .int .i64 un, .slice s2 n2 r2, .slice s3 n3 r3, .slice s4 n4 r4], .bool false]) (by simp [results, Try.results7, go_sem, o0, o1, o2, o3, o4]) rfl ?_
          exact ans_val HE.out HO.out (fun c hc => by have := HB.out c hc; omega) HBn.out (by omega)
      · have hno : okB d x = false := by simpa using hokx
        rw [hno]
        have HE := hide' (setA_no (d := d) (v := (5, vn, vs, vK, vL)) (key := key) (x := x) (fun h => hokx h.2.2))
        clear hok hokx hno
        obtain ⟨r0, r1, r2', r3', r4', rf⟩ := row5 HR2.out
        have f0 := rf 0
        have f1 := rf 1
        have f2 := rf 2
        have f3 := rf 3
        have f4 := rf 4
        clear rf
        go_wp2_with fail
        have hfin := row5 (set5_heap (j := 0) (.int .i64 0) (.int .i64 0) (.slice none 0 0) (.slice none 0 0) (.slice none 0 0) HR2.out)
        simp only [set5, Nat.zero_add] at hfin
        obtain ⟨o0, o1, o2, o3, o4, _⟩ := hfin
        refine bodyPost_ret (v := .tuple #[.agg #[.int .i64 0, .int .i64 0, .slice none 0 0, .slice none 0 0, .slice none 0 0], .bool false]) (by simp [results, Try.results7, go_sem, o0, o1, o2, o3, o4]) rfl ?_
        exact ans_nil HE.out HB2.out (by omega)
    · have hk5b : (ck != 5) = true := by simp [hk5]
      have HE := hide' (setA_no (d := d) (v := (ck, vn, vs, vK, vL)) (key := key) (x := x) (fun h => hk5 h.2.1))
      clear hok
      obtain ⟨r0, r1, r2', r3', r4', rf⟩ := row5 HR1.out
      have f0 := rf 0
      have f1 := rf 1
      have f2 := rf 2
      have f3 := rf 3
      have f4 := rf 4
      clear rf
      go_wp2_with fail
      have hfin := row5 (set5_heap (j := 0) (.int .i64 0) (.int .i64 0) (.slice none 0 0) (.slice none 0 0) (.slice none 0 0) HR1.out)
      simp only [set5, Nat.zero_add] at hfin
      obtain ⟨o0, o1, o2, o3, o4, _⟩ := hfin
      refine bodyPost_ret (v := .tuple #[.agg #[.int .i64 0, .int .i64 0, .slice none 0 0, .slice none 0 0, .slice none 0 0], .bool false]) (by simp [results, Try.results7, go_sem, o0, o1, o2, o3, o4]) rfl ?_
      exact ans_nil HE.out HB1.out (by omega)
  · have hno : okB (d + 1) (ck, vn, vs, vK, vL) = false := by simpa using hok
    rw [hno]
    have HE := hide' (setA_no (d := d) (v := (ck, vn, vs, vK, vL)) (key := key) (x := x) (fun h => hok h.1))
    clear hok hno
    obtain ⟨r0, r1, r2', r3', r4', rf⟩ := row5 HR1.out
    have f0 := rf 0
    have f1 := rf 1
    have f2 := rf 2
    have f3 := rf 3
    have f4 := rf 4
    clear rf
    go_wp2_with fail
    have hfin := row5 (set5_heap (j := 0) (.int .i64 0) (.int .i64 0) (.slice none 0 0) (.slice none 0 0) (.slice none 0 0) HR1.out)
    simp only [set5, Nat.zero_add] at hfin
    obtain ⟨o0, o1, o2, o3, o4, _⟩ := hfin
    refine bodyPost_ret (v := .tuple #[.agg #[.int .i64 0, .int .i64 0, .slice none 0 0, .slice none 0 0, .slice none 0 0], .bool false]) (by simp [results, Try.results7, go_sem, o0, o1, o2, o3, o4]) rfl ?_
    exact ans_nil HE.out HB1.out (by omega)
end Go.Proofs.Ytpknhmegoldppaa
/-
  What reads as a value of a depth reads as one of any greater; no statement is proved here.
-/
namespace Go.Proofs.Ytpknhmegoldppaa
open Go.RowKit
set_option linter.unusedVariables false
set_option linter.unusedSimpArgs false

/-- What reads at a depth reads at one more. -/
theorem VSeg.up {R : Nat → Prop} {w : World} : ∀ (d : Nat) (c : Value × Value × Value × Value × Value) (v : Vl d), VSeg R w d c v → ∃ v' : Vl (d + 1), VSeg R w (d + 1) c v'
  | 0, c, v, h => h.elim
  | d + 1, c, v, h => by
    obtain ⟨h0, h1, hT, hK, a, cap, e, hc, hm, hn, hL⟩ := h
    rcases hL with hL | ⟨b, off, ha, hb, hL⟩
    · refine ⟨(v.1, v.2.1, v.2.2.1, v.2.2.2.1, []), h0, h1, hT, hK, a, cap, ?_, Nat.zero_le _, hm, hn, Or.inl rfl⟩
      rw [e, hL]
      rfl
    · have hall : ∀ i (hi : i < v.2.2.2.2.length), ∃ v' : Vl (d + 1), ∃ e, Five w b (off + i * 5) e ∧ VSeg R w (d + 1) e v' := fun i hi => by
        obtain ⟨e, h5, hv⟩ := hL i hi
        obtain ⟨v', hv'⟩ := VSeg.up d e _ hv
        exact ⟨v', e, h5, hv'⟩
      have hlist : ∀ n, n ≤ v.2.2.2.2.length → ∃ l : List (Vl (d + 1)), l.length = n ∧ ∀ i (hi : i < l.length), ∃ e, Five w b (off + i * 5) e ∧ VSeg R w (d + 1) e l[i] := by
        intro n
        induction n with
        | zero => exact fun _ => ⟨[], rfl, fun i hi => absurd hi (by simp)⟩
        | succ n ih =>
          intro hn'
          obtain ⟨l, hl, hl2⟩ := ih (by omega)
          obtain ⟨v', e, h5, hv⟩ := hall n (by omega)
          refine ⟨l ++ [v'], by simp [hl], fun i hi => ?_⟩
          by_cases hin : i < l.length
          · rw [List.getElem_append_left hin]
            exact hl2 i hin
          · have hi' : i = l.length := by simp at hi; omega
            subst hi'
            rw [List.getElem_append_right (Nat.le_refl _)]
            simp only [Nat.sub_self, List.getElem_cons_zero]
            rw [hl]
            exact ⟨e, h5, hv⟩
      obtain ⟨l, hl, hl2⟩ := hlist _ (Nat.le_refl _)
      refine ⟨(v.1, v.2.1, v.2.2.1, v.2.2.2.1, l), h0, h1, hT, hK, a, cap, ?_, ?_, hm, hn, Or.inr ⟨b, off, ha, hb, hl2⟩⟩
      · show c.2.2.2.2 = .slice a l.length cap
        rw [hl]
        exact e
      · show l.length ≤ cap
        rw [hl]
        exact hc

theorem VSeg.deeper {R : Nat → Prop} {w : World} {d : Nat} {c : Value × Value × Value × Value × Value} {v : Vl d} (h : VSeg R w d c v) : ∀ k, ∃ v' : Vl (d + k), VSeg R w (d + k) c v'
  | 0 => ⟨v, h⟩
  | k + 1 => by
    obtain ⟨v', h'⟩ := VSeg.deeper h k
    exact VSeg.up (d + k) c v' h'

theorem VSeg.at_least {R : Nat → Prop} {w : World} {d D : Nat} {c : Value × Value × Value × Value × Value} {v : Vl d} (h : VSeg R w d c v) (hD : d ≤ D) : ∃ v' : Vl D, VSeg R w D c v' := by
  obtain ⟨k, rfl⟩ : ∃ k, D = d + k := ⟨D - d, by omega⟩
  exact h.deeper k
end Go.Proofs.Ytpknhmegoldppaa
/-
  FnExactValSet answers true, whatever values and key it is handed: the too large, and the rest; no statement is proved here.
-/
namespace Go.Proofs.Ytpknhmegoldppaa
open Go.RowKit Go.Shelf
set_option linter.unusedVariables false
set_option linter.unusedSimpArgs false

set_option maxHeartbeats 3200000 in
set_option maxRecDepth 100000 in
theorem set_long (c0 c1 c2 c3 c4 e0 e1 e2 e3 e4 : Value) (ka : Option Addr) (kn kc : Nat) (w : World) (hf : ∃ (ck cn : Int) (a2 : Option Addr) (l2 p2 : Nat) (a3 : Option Addr) (l3 p3 : Nat) (a4 : Option Addr) (l4 p4 : Nat), c0 = .int .i64 ck ∧ c1 = .int .i64 cn ∧ c2 = .slice a2 l2 p2 ∧ c3 = .slice a3 l3 p3 ∧ c4 = .slice a4 l4 p4) (hf' : ∃ (ck cn : Int) (a2 : Option Addr) (l2 p2 : Nat) (a3 : Option Addr) (l3 p3 : Nat) (a4 : Option Addr) (l4 p4 : Nat), e0 = .int .i64 ck ∧ e1 = .int .i64 cn ∧ e2 = .slice a2 l2 p2 ∧ e3 = .slice a3 l3 p3 ∧ e4 = .slice a4 l4 p4) (hkl : (1048576 : Int) < (kn : Int)) :
    Calls Try.prog 3 #[.agg #[c0, c1, c2, c3, c4], .slice ka kn kc, .agg #[e0, e1, e2, e3, e4]] w fun e w' => e = .returned (.bool true) ∧ Below w.heap.size w w' := by
  have Hb : Hid (∀ o o' : Obj, Below w.heap.size w ((w.alloc o).alloc o')) := fun o o' => ((Below.refl _ _).alloc (Nat.le_refl _) o).alloc (by simp) o'
  obtain ⟨ck, cn, a2, l2, p2, a3, l3, p3, a4, l4, p4, rfl, rfl, rfl, rfl, rfl⟩ := hf
  obtain ⟨xk, xn, b2, m2, q2, b3, m3, q3, b4, m4, q4, rfl, rfl, rfl, rfl, rfl⟩ := hf'
  go_enter Try.func3, Try.ntmps3
  go_wp2
  go_ret
  exact ⟨rfl, Hb.out _ _⟩

set_option maxHeartbeats 3200000 in
set_option maxRecDepth 100000 in
theorem set_big (d : Nat) (v : Vl (d + 1)) (ka : Option Addr) (kn kc : Nat) (c0 c1 c2 c3 c4 e0 e1 e2 e3 e4 : Value) (w : World) (hv : VSeg (fun b => b < w.heap.size) w (d + 1) (c0, c1, c2, c3, c4) v) (hf' : ∃ (ck cn : Int) (a2 : Option Addr) (l2 p2 : Nat) (a3 : Option Addr) (l3 p3 : Nat) (a4 : Option Addr) (l4 p4 : Nat), e0 = .int .i64 ck ∧ e1 = .int .i64 cn ∧ e2 = .slice a2 l2 p2 ∧ e3 = .slice a3 l3 p3 ∧ e4 = .slice a4 l4 p4) (hkl : ¬ (1048576 : Int) < (kn : Int)) (hz : (1048576 : Int) < szV (d + 1) v) :
    Calls Try.prog 3 #[.agg #[c0, c1, c2, c3, c4], .slice ka kn kc, .agg #[e0, e1, e2, e3, e4]] w fun e w' => e = .returned (.bool true) ∧ Below w.heap.size w w' := by
  have HS : Hid (∀ wx, Below w.heap.size w wx → Calls Try.prog 6 #[.agg #[c0, c1, c2, c3, c4], .int .i64 1048576] wx fun e w' => e = .returned (.int .i64 (less 1048576 (szV (d + 1) v))) ∧ Below wx.heap.size wx w') := fun wx hb =>
    szValue_any (d + 1) w.heap.size (c0, c1, c2, c3, c4) v 1048576 wx (VSeg.agree (agree_below hb) (d + 1) hv) hb.size (by omega) (by omega)
  have Hb : Hid (∀ o o' : Obj, Below w.heap.size w ((w.alloc o).alloc o')) := fun o o' => ((Below.refl _ _).alloc (Nat.le_refl _) o).alloc (by simp) o'
  obtain ⟨ck, cn, a2, l2, p2, a3, l3, p3, a4, l4, p4, rfl, rfl, rfl, rfl, rfl⟩ := VSeg.form (d + 1) hv
  obtain ⟨xk, xn, b2, m2, q2, b3, m3, q3, b4, m4, q4, rfl, rfl, rfl, rfl, rfl⟩ := hf'
  have Hr : Hid (∀ (o o' : Obj) (wx : World), Below ((w.alloc o).alloc o').heap.size ((w.alloc o).alloc o') wx → wx.heap[w.heap.size]? = some o ∧ wx.heap[w.heap.size + 1]? = some o') := fun o o' wx h => rows2_WSet h
  have hl : less 1048576 (szV (d + 1) v) = -1 := less_no _ _ hz
  rw [hl] at HS
  clear hl hv hz
  go_enter Try.func3, Try.ntmps3
  go_wp2_with fail
  refine (HS.out _ (Hb.out _ _)).mono ?_
  rintro e w1 ⟨rfl, b1⟩
  have B1 := hide' (Below.on (Hb.out _ _) b1)
  have h2 := (Hr.out _ _ _ b1).2
  have HX := hide' h2
  obtain ⟨g0, g1, g2, g3, g4, _⟩ := row5 HX.out
  clear b1 h2
  go_wp2
  go_ret
  exact ⟨rfl, B1.out⟩

set_option maxHeartbeats 3200000 in
set_option maxRecDepth 100000 in
theorem set_big2 (d d' : Nat) (v : Vl (d + 1)) (x : Vl (d' + 1)) (ka : Option Addr) (kn kc : Nat) (c0 c1 c2 c3 c4 e0 e1 e2 e3 e4 : Value) (w : World) (hv : VSeg (fun b => b < w.heap.size) w (d + 1) (c0, c1, c2, c3, c4) v) (hx : VSeg (fun b => b < w.heap.size) w (d' + 1) (e0, e1, e2, e3, e4) x) (hkl : ¬ (1048576 : Int) < (kn : Int)) (hz : ¬ (1048576 : Int) < szV (d + 1) v) (hz2 : (1048576 : Int) - szV (d + 1) v < szV (d' + 1) x) :
    Calls Try.prog 3 #[.agg #[c0, c1, c2, c3, c4], .slice ka kn kc, .agg #[e0, e1, e2, e3, e4]] w fun e w' => e = .returned (.bool true) ∧ Below w.heap.size w w' := by
  have HS : Hid (∀ wx, Below w.heap.size w wx → Calls Try.prog 6 #[.agg #[c0, c1, c2, c3, c4], .int .i64 1048576] wx fun e w' => e = .returned (.int .i64 (less 1048576 (szV (d + 1) v))) ∧ Below wx.heap.size wx w') := fun wx hb =>
    szValue_any (d + 1) w.heap.size (c0, c1, c2, c3, c4) v 1048576 wx (VSeg.agree (agree_below hb) (d + 1) hv) hb.size (by omega) (by omega)
  have HS2 : Hid (∀ wx, Below w.heap.size w wx → Calls Try.prog 6 #[.agg #[e0, e1, e2, e3, e4], .int .i64 (1048576 - szV (d + 1) v)] wx fun e w' => e = .returned (.int .i64 (less (1048576 - szV (d + 1) v) (szV (d' + 1) x))) ∧ Below wx.heap.size wx w') := fun wx hb =>
    szValue_any (d' + 1) w.heap.size (e0, e1, e2, e3, e4) x _ wx (VSeg.agree (agree_below hb) (d' + 1) hx) hb.size (by omega) (by omega)
  have Hb : Hid (∀ o o' : Obj, Below w.heap.size w ((w.alloc o).alloc o')) := fun o o' => ((Below.refl _ _).alloc (Nat.le_refl _) o).alloc (by simp) o'
  obtain ⟨ck, cn, a2, l2, p2, a3, l3, p3, a4, l4, p4, rfl, rfl, rfl, rfl, rfl⟩ := VSeg.form (d + 1) hv
  obtain ⟨xk, xn, b2, m2, q2, b3, m3, q3, b4, m4, q4, rfl, rfl, rfl, rfl, rfl⟩ := VSeg.form (d' + 1) hx
  have Hr : Hid (∀ (o o' : Obj) (wx : World), Below ((w.alloc o).alloc o').heap.size ((w.alloc o).alloc o') wx → wx.heap[w.heap.size]? = some o ∧ wx.heap[w.heap.size + 1]? = some o') := fun o o' wx h => rows2_WSet h
  have hl : less 1048576 (szV (d + 1) v) = 1048576 - szV (d + 1) v := less_yes _ _ hz
  have hl2 : less (1048576 - szV (d + 1) v) (szV (d' + 1) x) = -1 := less_no _ _ hz2
  rw [hl] at HS
  rw [hl2] at HS2
  have hz0 : 0 ≤ (1048576 : Int) - szV (d + 1) v := by omega
  have hz1 : (1048576 : Int) - szV (d + 1) v ≤ 1048576 := by omega
  clear hl hl2 hv hx hz hz2
  generalize szV (d + 1) v = sz at *
  go_enter Try.func3, Try.ntmps3
  go_wp2_with fail
  refine (HS.out _ (Hb.out _ _)).mono ?_
  rintro e w1 ⟨rfl, b1⟩
  have B1 := hide' (Below.on (Hb.out _ _) b1)
  have h2 := (Hr.out _ _ _ b1).2
  have HX := hide' h2
  obtain ⟨g0, g1, g2, g3, g4, _⟩ := row5 HX.out
  clear b1 h2
  go_wp2_with fail
  refine (HS2.out _ B1.out).mono ?_
  rintro e w2 ⟨rfl, b2'⟩
  have B2 := hide' (Below.on B1.out b2')
  clear b2' g0 g1 g2 g3 g4
  go_wp2
  go_ret
  exact ⟨rfl, B2.out⟩

theorem Bts.tseg {w : World} {base : Nat} {a : Option Addr} {n c : Nat} {xs : List Int} (h : Bts w base (.slice a n c) xs) : TSeg (fun b => b < w.heap.size) w (.slice a n c) xs := by
  obtain ⟨a', cap, e, hS, h1, h2, h3, h4⟩ := h.shape
  obtain ⟨rfl, rfl, rfl⟩ : a = a' ∧ n = xs.length ∧ c = cap := by simpa using e
  exact ⟨a, c, rfl, hS, h1, h2, h4, fun x hx _ => (h3 x hx).2.1⟩

theorem walk_FnExactValSet (n n' : Nat) (c0 c1 c2 c3 c4 e0 e1 e2 e3 e4 : Value) (v0 : Vl n) (x0 : Vl n') (key : List Int) (ka : Option Addr) (kc : Nat) (w : World) (hv0 : VSeg (fun b => b < w.heap.size) w n (c0, c1, c2, c3, c4) v0) (hx0 : VSeg (fun b => b < w.heap.size) w n' (e0, e1, e2, e3, e4) x0) (hS : Seg w ka key) :
    Calls Try.prog 3 #[.agg #[c0, c1, c2, c3, c4], .slice ka key.length kc, .agg #[e0, e1, e2, e3, e4]] w fun e w' => e = .returned (.bool true) ∧ Below w.heap.size w w' := by
  obtain ⟨v, hv⟩ := hv0.at_least (D := n + n' + 1 + 1) (by omega)
  obtain ⟨x, hx⟩ := hx0.at_least (D := n + n' + 1) (by omega)
  clear hv0 hx0
  generalize n + n' = d at *
  by_cases hk : (1048576 : Int) < (key.length : Int)
  · exact set_long c0 c1 c2 c3 c4 e0 e1 e2 e3 e4 ka key.length kc w (VSeg.form _ hv) (VSeg.form _ hx) hk
  by_cases hz : (1048576 : Int) < szV (d + 1 + 1) v
  · exact set_big (d + 1) v ka key.length kc c0 c1 c2 c3 c4 e0 e1 e2 e3 e4 w hv (VSeg.form _ hx) hk hz
  by_cases hz2 : (1048576 : Int) - szV (d + 1 + 1) v < szV (d + 1) x
  · exact set_big2 (d + 1) d v x ka key.length kc c0 c1 c2 c3 c4 e0 e1 e2 e3 e4 w hv hx hk hz hz2
  have hk' : key.length ≤ 1048576 := by omega
  have hsA := setA_sz (d + 1) v key x
  refine walk_WSet (d + 1) d (d + 1) v x (setA (d + 1) v key x) (setF (d + 1) v key x) key ka kc c0 c1 c2 c3 c4 e0 e1 e2 e3 e4 w hv hx hS hk' (by omega) (by omega) (hide' ?_) (hide' ?_)
  · intro u0 u1 u2 u3 u4 BA y0 y1 y2 y3 y4 BX wx hA hX z zc base hK
    exact spec_ValSet_any (d + 1) u0 u1 u2 u3 u4 y0 y1 y2 y3 y4 v x z zc key wx (hA.below (Below.refl _ _)) (hX.below (Below.refl _ _)) hK.tseg (by omega)
  · intro u0 u1 u2 u3 u4 BA y0 y1 y2 y3 y4 BX wx hA hX z zc base hK
    exact impl_ValSet_any (d + 1) wx.heap.size u0 u1 u2 u3 u4 y0 y1 y2 y3 y4 v x z zc key wx (hA.below (Below.refl _ _)) (hX.below (Below.refl _ _)) (Nat.le_refl _) hK.seg (fun a ha _ => (hK.lt a ha).2) hk'
end Go.Proofs.Ytpknhmegoldppaa
/-
  A value that came in, as its reading has it, can be read: 'VSeg'.
-/
namespace Go.Proofs.Ytpknhmegoldppaa
open Go.ChangeShapes Go.WideShapes Go.ChangeAt Go.RowKit
set_option linter.unusedVariables false
set_option linter.unusedSimpArgs false
set_option maxRecDepth 100000

theorem cellsK : Try.prog.cellsOf 23 = 1 := by kernel_rfl
theorem cellsL : Try.prog.cellsOf 24 = 1 := by kernel_rfl
theorem cellsV : Try.prog.cellsOf 26 = 5 := by kernel_rfl
variable {H : Type} {enc : TypeId × Value → H} {w : World}

theorem read_keys {fuel : Nat} {cs : List Value} {x : DataW H × List MemPlace} (h : DataW.trod enc Try.prog w 0 (fun _ => true) true fuel 23 cs = some x) : ∃ u ks, cs = [u] ∧ KSeg (fun b => b < w.heap.size) w u ks := by
  rcases DataW.trod_slice Try.underlying23 h with ⟨rfl, _⟩ | ⟨a, len, cap, elems, rest, n, _, rfl, _, hb, hl, hm, hlen, hel, hsp, hns⟩
  · exact ⟨_, [], rfl, none, 0, rfl, Nat.le_refl _, Nat.zero_le _, fun _ => rfl, .inl rfl⟩
  · have hq : ∀ i, i < len → ∃ xs : List Int, ∃ u, w.cell? (a.add i) = some u ∧ TSeg (fun b => b < w.heap.size) w u xs := by
      intro i hi
      have h1 := hel i hi
      rw [cellsT, Nat.mul_one, List.getElem?_eq_getElem (by omega)] at h1
      obtain ⟨cs', hc, ht⟩ := Option.bind_eq_some_iff.1 h1
      obtain ⟨u, xs, rfl, hT⟩ := read_text ht
      exact ⟨xs, u, cell_of_cells?_one hc, hT⟩
    obtain ⟨ks, hkl, hks⟩ := list_of len hq
    subst hkl
    refine ⟨_, ks, rfl, some a, cap, rfl, hl, hm, by simp, ?_⟩
    by_cases he : ks = []
    · exact .inl he
    · have hp : 0 < ks.length := List.length_pos_iff.2 he
      obtain ⟨b, off, spot⟩ := a
      obtain ⟨u0, hu0, _⟩ := hks 0 hp
      have hspot : spot = none := by simpa [Addr.add] using World.cell?_spot hu0
      subst hspot
      refine .inr ⟨b, off, rfl, ?_, fun i hi => ?_⟩
      · have := World.block_lt_of_cell? w _ hu0
        simpa [Addr.add] using this
      · obtain ⟨u, hu, hT⟩ := hks i hi
        rw [Addr.add_lit] at hu
        exact ⟨u, hu, by simpa [List.getD_eq_getElem?_getD, hi] using hT⟩

theorem read_five {fuel : Nat} {cs : List Value} {x : DataW H × List MemPlace} (h : DataW.trod enc Try.prog w 0 (fun _ => true) true (fuel + 1) 26 cs = some x) :
    ∃ c0 c1 c2 c3 c4 y0 y1 y2 y3 y4, cs = [c0, c1, c2, c3, c4] ∧ DataW.trod enc Try.prog w 0 (fun _ => true) true fuel 3 [c0] = some y0 ∧ DataW.trod enc Try.prog w 0 (fun _ => true) true fuel 3 [c1] = some y1 ∧
      DataW.trod enc Try.prog w 0 (fun _ => true) true fuel 22 [c2] = some y2 ∧ DataW.trod enc Try.prog w 0 (fun _ => true) true fuel 23 [c3] = some y3 ∧ DataW.trod enc Try.prog w 0 (fun _ => true) true fuel 24 [c4] = some y4 := by
  unfold DataW.trod at h
  rw [Try.underlying26] at h
  simp only [cellsV] at h
  split at h
  · next hlen =>
    match cs, hlen with
    | [c0, c1, c2, c3, c4], _ =>
      simp [cellsT, cellsK, cellsL, cellsI, List.mapM_cons, Option.bind_eq_some_iff] at h
      obtain ⟨a0, b0, h0, _, ⟨a1, b1, h1, _, ⟨a2, b2, h2, _, ⟨a3, b3, h3, _, ⟨a4, b4, h4, _⟩, _⟩, _⟩, _⟩, _⟩ := h
      exact ⟨c0, c1, c2, c3, c4, _, _, _, _, _, rfl, h0, h1, h2, h3, h4⟩
  · simp at h

/-- How deep what is read with that fuel is at most. -/
def dep : Nat → Nat
  | 0 => 0
  | 1 => 0
  | f + 2 => dep f + 1

def ReadAt (enc : TypeId × Value → H) (w : World) (f : Nat) : Prop := ∀ (cs : List Value) (x : DataW H × List MemPlace), DataW.trod enc Try.prog w 0 (fun _ => true) true f 26 cs = some x →
  ∃ (c0 c1 c2 c3 c4 : Value) (v : Vl (dep f)), cs = [c0, c1, c2, c3, c4] ∧ VSeg (fun b => b < w.heap.size) w (dep f) (c0, c1, c2, c3, c4) v

theorem read_step (f : Nat) (ih : ReadAt enc w f) : ReadAt enc w (f + 2) := by
  intro cs x h
  obtain ⟨c0, c1, c2, c3, c4, y0, y1, y2, y3, y4, rfl, h0, h1, h2, h3, h4⟩ := read_five h
  obtain ⟨n0, e0, _, _⟩ := DataW.trod_int Try.underlying3 h0
  obtain ⟨n1, e1, _, _⟩ := DataW.trod_int Try.underlying3 h1
  obtain ⟨u2, xs, e2, hT⟩ := read_text h2
  obtain ⟨u3, ks, e3, hK⟩ := read_keys h3
  simp at e0 e1 e2 e3
  subst e0 e1 e2 e3
  have hL : ∃ l : List (Vl (dep f)), LSeg (fun b => b < w.heap.size) w (dep f) c4 l := by
    rcases DataW.trod_slice Try.underlying24 h4 with ⟨e, _⟩ | ⟨a, len, cap, elems, rest, n, hn, e, _, hb, hl, hm, hlen, hel, hsp, hns⟩
    · simp at e
      subst e
      exact ⟨[], none, 0, rfl, Nat.le_refl _, Nat.zero_le _, fun _ => rfl, .inl rfl⟩
    · simp at e
      subst e
      obtain rfl : n = f := by omega
      have hq : ∀ i, i < len → ∃ v : Vl (dep n), ∃ c0 c1 c2 c3 c4, (∀ j, j < 5 → w.cell? ((a.add (i * 5)).add j) = [c0, c1, c2, c3, c4][j]?) ∧ VSeg (fun b => b < w.heap.size) w (dep n) (c0, c1, c2, c3, c4) v := by
        intro i hi
        have h1 := hel i hi
        rw [cellsV, List.getElem?_eq_getElem (by omega)] at h1
        obtain ⟨cs', hc, ht⟩ := Option.bind_eq_some_iff.1 h1
        obtain ⟨d0, d1, d2, d3, d4, v, rfl, hv⟩ := ih cs' _ ht
        exact ⟨v, d0, d1, d2, d3, d4, (World.cells?_some hc).2.2, hv⟩
      obtain ⟨l, hll, hls⟩ := list_of len hq
      subst hll
      refine ⟨l, some a, cap, rfl, hl, hm, by simp, ?_⟩
      by_cases he : l = []
      · exact .inl he
      · have hp : 0 < l.length := List.length_pos_iff.2 he
        obtain ⟨b, off, spot⟩ := a
        obtain ⟨d0, d1, d2, d3, d4, hu0, _⟩ := hls 0 hp
        have hu := hu0 0 (by omega)
        simp [Addr.add] at hu
        have hspot : spot = none := by simpa using World.cell?_spot hu
        subst hspot
        refine .inr ⟨b, off, rfl, World.block_lt_of_cell? w _ hu, fun i hi => ?_⟩
        obtain ⟨d0, d1, d2, d3, d4, hu, hv⟩ := hls i hi
        have e : ∀ j, j < 5 → w.cell? ⟨b, off + i * 5 + j, none⟩ = [d0, d1, d2, d3, d4][j]? := by
          intro j hj
          have := hu j hj
          rw [Addr.add_lit, Addr.add_lit] at this
          exact this
        exact ⟨(d0, d1, d2, d3, d4), ⟨e 0 (by omega), e 1 (by omega), e 2 (by omega), e 3 (by omega), e 4 (by omega)⟩, hv⟩
  obtain ⟨l, hL⟩ := hL
  exact ⟨_, _, _, _, _, (n0, n1, xs, ks, l), rfl, (VSeg_succ _ _ _ _ _).2 ⟨rfl, rfl, hT, hK, hL⟩⟩

theorem read_both (f : Nat) : ReadAt enc w f ∧ ReadAt enc w (f + 1) := by
  induction f with
  | zero =>
    refine ⟨fun cs x h => by simp [DataW.trod] at h, fun cs x h => ?_⟩
    obtain ⟨_, _, _, _, _, _, _, _, _, _, _, h0, _⟩ := read_five h
    simp [DataW.trod] at h0
  | succ f ih => exact ⟨ih.2, read_step f ih.1⟩

/-- A value that came in. -/
theorem read_value {v : Value} {d : DataW H} {ps : List MemPlace} (h : DataW.Trod enc Try.prog w 0 (fun _ => true) true 26 v d ps) :
    ∃ c0 c1 c2 c3 c4 n, v = .agg #[c0, c1, c2, c3, c4] ∧ ∃ x : Vl n, VSeg (fun b => b < w.heap.size) w n (c0, c1, c2, c3, c4) x := by
  obtain ⟨fuel, hf⟩ := h
  obtain ⟨c0, c1, c2, c3, c4, x, e, hx⟩ := (read_both fuel).1 _ _ hf
  refine ⟨c0, c1, c2, c3, c4, dep fuel, ?_, x, hx⟩
  cases v <;> simp [Value.cells] at e
  rename_i cs
  cases cs
  simp at e
  simp [e]
end Go.Proofs.Ytpknhmegoldppaa
