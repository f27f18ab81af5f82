/-
  Texts that a law leans on, one behind the other; no statement is proved here.
-/
import Derived.Test.YtenfnbnhdmkhkaaPk0
import Derived.Test.YtenfnbnhdmkhkaaPk9
import Derived.Test.YtenfnbnhdmkhkaaPk13
import Derived.Deep.RegionLaw
/-
  What reads as a value of a depth reads as one of any greater; no statement is proved here.
-/
namespace Go.Proofs.Ytenfnbnhdmkhkaa
open Go.RowKit
set_option linter.unusedVariables false
set_option linter.unusedSimpArgs false

/-- What reads at a depth reads at one more. -/
theorem VSeg.upd {R : Nat → Prop} {w : World} : ∀ (d : Nat) (c : Value × Value × Value × Value × Value) (v : Vl d), VSeg R w d c v → ∃ v' : Vl (d + 1), VSeg R w (d + 1) c v'
  | 0, c, v, h => h.elim
  | d + 1, c, v, h => by
    obtain ⟨h0, h1, hT, hK, a, cap, e, hc, hm, hn, hL⟩ := h
    rcases hL with hL | ⟨b, off, ha, hb, hL⟩
    · refine ⟨(v.1, v.2.1, v.2.2.1, v.2.2.2.1, []), h0, h1, hT, hK, a, cap, ?_, Nat.zero_le _, hm, hn, Or.inl rfl⟩
      rw [e, hL]
      rfl
    · have hall : ∀ i (hi : i < v.2.2.2.2.length), ∃ v' : Vl (d + 1), ∃ e, Five w b (off + i * 5) e ∧ VSeg R w (d + 1) e v' := fun i hi => by
        obtain ⟨e, h5, hv⟩ := hL i hi
        obtain ⟨v', hv'⟩ := VSeg.upd d e _ hv
        exact ⟨v', e, h5, hv'⟩
      have hlist : ∀ n, n ≤ v.2.2.2.2.length → ∃ l : List (Vl (d + 1)), l.length = n ∧ ∀ i (hi : i < l.length), ∃ e, Five w b (off + i * 5) e ∧ VSeg R w (d + 1) e l[i] := by
        intro n
        induction n with
        | zero => exact fun _ => ⟨[], rfl, fun i hi => absurd hi (by simp)⟩
        | succ n ih =>
          intro hn'
          obtain ⟨l, hl, hl2⟩ := ih (by omega)
          obtain ⟨v', e, h5, hv⟩ := hall n (by omega)
          refine ⟨l ++ [v'], by simp [hl], fun i hi => ?_⟩
          by_cases hin : i < l.length
          · rw [List.getElem_append_left hin]
            exact hl2 i hin
          · have hi' : i = l.length := by simp at hi; omega
            subst hi'
            rw [List.getElem_append_right (Nat.le_refl _)]
            simp only [Nat.sub_self, List.getElem_cons_zero]
            rw [hl]
            exact ⟨e, h5, hv⟩
      obtain ⟨l, hl, hl2⟩ := hlist _ (Nat.le_refl _)
      refine ⟨(v.1, v.2.1, v.2.2.1, v.2.2.2.1, l), h0, h1, hT, hK, a, cap, ?_, ?_, hm, hn, Or.inr ⟨b, off, ha, hb, hl2⟩⟩
      · show c.2.2.2.2 = .slice a l.length cap
        rw [hl]
        exact e
      · show l.length ≤ cap
        rw [hl]
        exact hc

theorem VSeg.deeper {R : Nat → Prop} {w : World} {d : Nat} {c : Value × Value × Value × Value × Value} {v : Vl d} (h : VSeg R w d c v) : ∀ k, ∃ v' : Vl (d + k), VSeg R w (d + k) c v'
  | 0 => ⟨v, h⟩
  | k + 1 => by
    obtain ⟨v', h'⟩ := VSeg.deeper h k
    exact VSeg.upd (d + k) c v' h'

theorem VSeg.at_least {R : Nat → Prop} {w : World} {d D : Nat} {c : Value × Value × Value × Value × Value} {v : Vl d} (h : VSeg R w d c v) (hD : d ≤ D) : ∃ v' : Vl D, VSeg R w D c v' := by
  obtain ⟨k, rfl⟩ : ∃ k, D = d + k := ⟨D - d, by omega⟩
  exact h.deeper k
end Go.Proofs.Ytenfnbnhdmkhkaa
/-
  Two values that are drawn to be held against each other. No statement is proved here.
-/
namespace Go.Proofs.Ytenfnbnhdmkhkaa
open Go.RowKit
set_option linter.unusedVariables false
set_option linter.unusedSimpArgs false

set_option maxHeartbeats 800000 in
theorem l1New_one (a : Option Addr) (cap : Nat) (xs : List Int) (w : World) (ha : Seg w a xs) (hl : xs.length ≤ maxLen) :
    Calls Try.prog 22 #[.slice a xs.length cap] w fun e w' => e = .returned (.pointer (some ⟨w.heap.size, 0, none⟩)) ∧ Cur w' w.heap.size a xs.length cap ∧ Below w.heap.size w w' ∧ w'.heap.size = w.heap.size + 1 := by
  unfold maxLen at hl
  generalize hn : xs.length = n at *
  have Hn : Hid (xs.length = n) := hn
  clear hn
  go_enter Try.func22, Try.ntmps22
  go_wp2
  go_loopw [3, 4] (fun h i wr => ∃ (k : Nat) (hv : Int), k ≤ n ∧ k ≤ 4000 ∧ i = .int .i64 k ∧ h = .int .i64 hv ∧ wr = w) (fun _ i _ => n - (intOf i).toNat)
  case atStart => exact ⟨0, _, Nat.zero_le _, Nat.zero_le _, rfl, rfl, rfl⟩
  case round =>
    obtain ⟨k, hv, hk, hk4, rfl, rfl, rfl⟩ := hrel
    by_cases hlt : k < n ∧ k < 4000
    · obtain ⟨hlt1, hlt2⟩ := hlt
      have hlt1' : (k : Int) < (n : Int) := by omega
      have hlt2' : (k : Int) < 4000 := by omega
      obtain ⟨b, off, rfl, hc⟩ := ha.at (k := k) (by have := Hn.out; omega)
      generalize xs.getD k 0 = c at hc
      go_wp2
      go_roundw
      case rel => exact ⟨k + 1, _, by omega, by omega, by go_num, by first | exact ⟨rfl, rfl⟩ | exact ⟨rfl, trivial⟩⟩
      case measure => simp [intOf]; omega
    · by_cases h1 : (k : Int) < (n : Int)
      · have h2 : ¬ (k : Int) < 4000 := by omega
        clear hlt
        go_wp2
        go_ret
        exact ⟨rfl, ⟨0, hv, heap_alloc_new _ _, Nat.zero_le _⟩, (Below.refl _ _).alloc (Nat.le_refl _) _, by simp⟩
      · clear hlt
        go_wp2
        go_ret
        exact ⟨rfl, ⟨0, hv, heap_alloc_new _ _, Nat.zero_le _⟩, (Below.refl _ _).alloc (Nat.le_refl _) _, by simp⟩

/-- A cursor is made: nothing else lies from there on. -/
theorem l1New_hs (M : Nat) (a : Option Addr) (cap : Nat) (xs : List Int) (w : World) (ha : Seg w a xs) (hl : xs.length ≤ maxLen) :
    Calls Try.prog 22 #[.slice a xs.length cap] w fun e w' => e = .returned (.pointer (some ⟨w.heap.size, 0, none⟩)) ∧ Hs w.heap.size M (fun _ => 0) w' w.heap.size a cap xs ∧ Below w.heap.size w w' := by
  refine (l1New_one a cap xs w ha hl).mono ?_
  rintro e w' ⟨rfl, hc, hb, hz⟩
  refine ⟨rfl, ⟨fun g hg cur T fr hh => ?_, ⟨ha.grow hb, hl, hc, fun x hx he => by have := ha.lt x hx he; omega⟩, Nat.le_refl _, fun x hx he => ha.lt x hx he⟩, hb⟩
  have hl := (Array.getElem?_eq_some_iff.1 hh).1
  obtain rfl : g = w.heap.size := by omega
  have := hc.type hh
  exact ⟨fun h => absurd (.inl h) this, fun h => absurd (.inr (.inl h)) this, fun h => absurd (.inr (.inr h)) this⟩

/-- The answer's box is written, behind a value that was bent. -/
theorem any_end {B M : Nat} {rk rk2 : Nat → Nat} {g R : Nat} {a : Option Addr} {cap : Nat} {cs : List Int} {w w2 : World} {k n : Int} {a2 : Option Addr} {l2 p2 : Nat} {a3 : Option Addr} {l3 p3 : Nat} {a4 : Option Addr} {l4 p4 : Nat} {z0 z1 z2 z3 z4 : Value} (hS : Hs B M rk2 w2 g a cap cs) (hG : Grp B M rk2 11 w2 (.int .i64 k, .int .i64 n, .slice a2 l2 p2, .slice a3 l3 p3, .slice a4 l4 p4)) (hb : Below B w w2) (hk : Rks (rkS rk) rk2 w.heap.size) (hs : Shp w w2) (hBR : B ≤ R) (hR : w2.heap[R]? = some (.cells #[z0, z1, z2, z3, z4] 26 (0, 0))) (hkR : 11 ≤ rk2 R) (hM : ∃ m, M = m + 1) :
    ∃ m, M = m + 1 ∧ BentEnd B m rk 3 g a cap cs w (.returned (.agg #[.int .i64 k, .int .i64 n, .slice a2 l2 p2, .slice a3 l3 p3, .slice a4 l4 p4])) (set5 w2 R 0 (.int .i64 k) (.int .i64 n) (.slice a2 l2 p2) (.slice a3 l3 p3) (.slice a4 l4 p4)) := by
  obtain ⟨m, rfl⟩ := hM
  obtain ⟨k1, k2⟩ := hS.1.set5 hR (hG.shp (Shp.refl _) (Rks.refl _ _) hkR)
  have hgR := hS.ne_row hR row3_v
  have hoth : ∀ b, b ≠ R → (set5 w2 R 0 (.int .i64 k) (.int .i64 n) (.slice a2 l2 p2) (.slice a3 l3 p3) (.slice a4 l4 p4)).heap[b]? = w2.heap[b]? := fun b hb => set5_other w2 R 0 _ _ _ _ _ b hb
  have h5 := set5_grown w2 R 0 (.int .i64 k) (.int .i64 n) (.slice a2 l2 p2) (.slice a3 l3 p3) (.slice a4 l4 p4)
  generalize set5 w2 R 0 (.int .i64 k) (.int .i64 n) (.slice a2 l2 p2) (.slice a3 l3 p3) (.slice a4 l4 p4) = wf at *
  refine ⟨m, rfl, k, n, a2, l2, p2, a3, l3, p3, a4, l4, p4, rk2, rfl, hG.shp k2 (Rks.refl _ _) (Nat.le_refl _), hS.on k1 (hoth g (Ne.symm hgR)) (fun b hb => hoth b (by omega)), ⟨h5.os.trans hb.os, h5.tape.trans hb.tape, h5.output.trans hb.output, Nat.le_trans hb.size h5.size, fun b hb' => (hoth b (by omega)).trans (hb.block b hb')⟩, hk, hs.trans k2⟩

set_option maxHeartbeats 1600000 in
theorem l2any_hs (B M : Nat) (rk : Nat → Nat) (g : Nat) (a : Option Addr) (cap : Nat) (cs : List Int) (w : World) (h : Hs B M rk w g a cap cs) (hM1 : 64 ≤ M) (hM2 : M ≤ 100000) :
    Calls Try.prog 23 #[.pointer (some ⟨g, 0, none⟩)] w (BentEnd B M rk 3 g a cap cs w) := by
  have hgl := h.lt
  have hB := h.base
  have hBg := h.2.2.1
  have hH0 := h.1.alloc_v 20 (.int .i64 0) (.int .i64 0) (.slice none 0 0) (.slice none 0 0) (.slice none 0 0) (grp_leaf _ _ _ _ _ _ _)
  have hb0 : Below w.heap.size w (w.alloc (.cells #[.int .i64 0, .int .i64 0, .slice none 0 0, .slice none 0 0, .slice none 0 0] 26)) := (Below.refl _ _).alloc (Nat.le_refl _) _
  have hS0 := h.below hH0 hb0
  have hT0 : Stp rk w (rkUp rk w.heap.size 20) _ g := Stp.below hb0 (rkUp_old _ _ _)
  have hkR : rkUp rk w.heap.size 20 w.heap.size = 20 := rkUp_at _ _ _
  have hRx : Bx5 (w.alloc (.cells #[.int .i64 0, .int .i64 0, .slice none 0 0, .slice none 0 0, .slice none 0 0] 26)) w.heap.size := ⟨_, heap_alloc_new w _, rfl⟩
  generalize rkUp rk w.heap.size 20 = rk0 at *
  have H1 := hide' (l2draw_hs 3 B M rk0 g a cap cs 3 _ hS0 (by omega) (by omega) (by omega) hM1 (by omega))
  have HT0 := hide' hT0
  have HRx := hide' hRx
  clear h hH0 hb0 hS0 hT0 hRx
  go_enter Try.func23, Try.ntmps23
  go_wp2_with fail
  refine H1.out.mono ?_
  rintro e w1 ⟨k, n, a2, l2, p2, a3, l3, p3, a4, l4, p4, rk1, rfl, hG, hS, hT⟩
  have H2 := hide' (l2bent_hs B M 3 rk1 g a cap cs k n a2 l2 p2 a3 l3 p3 a4 l4 p4 w1 hS hG hM1 hM2)
  have HT := hide' (HT0.out.trans hT)
  have HR1 := hide' (HRx.out.shp hT.2.2)
  have hz1 : w.heap.size < w1.heap.size := by have := hT.2.1.size; simp at this; omega
  have HkR : Hid (rk1 w.heap.size = 20) := hide' ((hT.1 _ (by simp)).trans hkR)
  clear hG hS hT H1 HRx HT0 hkR
  go_wp2_with fail
  refine H2.out.mono ?_
  rintro e w2 ⟨k', n', b2, m2, q2, b3, m3, q3, b4, m4, q4, rk2, rfl, hG2, hS2, hB2, hR2, hSh2⟩
  have hb1 : Below B w w1 := ⟨HT.out.2.1.os, HT.out.2.1.tape, HT.out.2.1.output, HT.out.2.1.size, fun b hb => HT.out.2.1.block b (by omega) (by simp; omega)⟩
  have hR2x := HR1.out.shp hSh2
  obtain ⟨zk, zn, u2, t2, o2, u3, t3, o3, u4, t4, o4, hRz, _⟩ := hR2x.form hS2.1 hB
  have hkk : 11 ≤ rk2 w.heap.size := by
    have e1 : rk2 w.heap.size = rk1 w.heap.size + 1 := hR2 _ hz1
    have e2 := HkR.out
    omega
  obtain ⟨m, hm, hE⟩ := any_end hS2 hG2 (hb1.trans hB2) (rk := rk) (fun b hb => by rw [hR2 b (by omega)]; show rk1 b + 1 = rk b + 1; rw [HT.out.1 b hb]) (HT.out.2.2.trans hSh2) hB hRz hkk ⟨M, rfl⟩
  obtain rfl : M = m := by omega
  have HE := hide' hE
  have HRz := hide' hRz
  obtain ⟨r0, r1, r2, r3, r4, rf⟩ := row5 hRz
  have f0 := rf 0
  have f1 := rf 1
  have f2 := rf 2
  have f3 := rf 3
  have f4 := rf 4
  clear rf hRz hG2 hS2 hB2 hR2 hSh2 hb1 H2 HT hE hR2x hm hkk HR1 HkR
  go_wp2_with fail
  have hfin := row5 (set5_heap (j := 0) (.int .i64 k') (.int .i64 n') (.slice b2 m2 q2) (.slice b3 m3 q3) (.slice b4 m4 q4) HRz.out)
  simp only [set5, Nat.zero_add] at hfin
  obtain ⟨o0, o1, o2', o3', o4', _⟩ := hfin
  refine bodyPost_ret (v := .agg #[.int .i64 k', .int .i64 n', .slice b2 m2 q2, .slice b3 m3 q3, .slice b4 m4 q4]) (by simp [results, Try.results23, go_sem, o0, o1, o2', o3', o4']) rfl ?_
  exact HE.out

theorem Hw.textsB {B M M' : Nat} {rk : Nat → Nat} {p : Nat → Prop} {w : World} {v : Value} (h : Hw B M rk w) (hM2 : M' ≤ 1000000) (hM : M ≤ M') (hv : Sli B M' 22 1 p w v) : ∃ ks : List (List Int), KSeg (From B w) w v ks ∧ ks.length ≤ M' ∧ ∀ i, i < ks.length → (ks.getD i []).length ≤ 1048576 := by
  obtain ⟨a, n, cap, rfl, h1, h2, h3, ⟨rfl, rfl⟩ | ⟨g, cur, fr, rfl, hB, _, hg, hc⟩⟩ := hv
  · obtain rfl : n = 0 := by omega
    exact ⟨[], ⟨none, 0, rfl, Nat.le_refl _, h3, fun _ => rfl, .inl rfl⟩, Nat.zero_le _, fun i hi => by simp at hi⟩
  · have hcell := ((h g hB cur _ fr hg).2.1 rfl).2
    obtain ⟨l, hl, hp⟩ := pick_list n (fun i (x : List Int) => (∃ u, cur[i]? = some u ∧ TSeg (From B w) w u x) ∧ x.length ≤ M) fun i hi => by
      obtain ⟨x, hx, hl⟩ := h.text (hcell i cur[i] (Array.getElem?_eq_getElem (by omega)))
      exact ⟨x, ⟨_, Array.getElem?_eq_getElem (by omega), hx⟩, hl⟩
    subst hl
    have hlt := (Array.getElem?_eq_some_iff.1 hg).1
    have hgd : ∀ i (hi : i < l.length), l.getD i [] = l[i] := fun i hi => by simp [List.getD_eq_getElem?_getD, hi]
    refine ⟨l, ⟨some ⟨g, 0, none⟩, cap, rfl, h2, h3, by simp, .inr ⟨g, 0, rfl, ⟨hB, hlt⟩, fun i hi => ?_⟩⟩, h1, fun i hi => ?_⟩
    · obtain ⟨⟨u, hu, ht⟩, _⟩ := hp i hi
      refine ⟨u, ?_, ?_⟩
      · rw [Nat.zero_add, cell_of_row w g i cur _ fr hg, hu]
      · rw [hgd i hi]
        exact ht
    · rw [hgd i hi]
      have := (hp i hi).2
      omega

/-- What lies there reads as a value none of whose rows is long. -/
theorem Hw.valB {B M M' : Nat} {rk : Nat → Nat} {w : World} (h : Hw B M rk w) (hM : M ≤ M') (hM2 : M' ≤ 1000000) : ∀ (r : Nat) (c : Value × Value × Value × Value × Value), Grp B M' rk r w c → ∃ v : Vl (r + 1), VSeg (From B w) w (r + 1) c v ∧ bndV (r + 1) v
  | r, (c0, c1, c2, c3, c4), hc => by
    obtain ⟨⟨x0, h0⟩, ⟨x1, h1⟩, h2, h3, h4⟩ := hc
    simp only at h0 h1 h2 h3 h4
    obtain ⟨xs, hT, hx1⟩ := h.text h2
    obtain ⟨ks, hK, hk1, hk2⟩ := h.textsB hM2 hM h3
    subst h0 h1
    obtain ⟨a, n, cap, rfl, g1, g2, g3, ⟨rfl, rfl⟩ | ⟨g, cur, fr, rfl, hB, hp, hg, hcz⟩⟩ := h4
    · obtain rfl : n = 0 := by omega
      exact ⟨(x0, x1, xs, ks, []), (VSeg_succ _ _ _ _ _).2 ⟨rfl, rfl, hT, hK, none, 0, rfl, Nat.le_refl _, g3, fun _ => rfl, .inl rfl⟩, by show xs.length ≤ 1048576; omega, by show ks.length ≤ 1048576; omega, hk2, Nat.zero_le _, fun i hi => by simp at hi⟩
    · have hcell := ((h g hB cur _ fr hg).2.2 rfl).2
      have hlt := (Array.getElem?_eq_some_iff.1 hg).1
      cases r with
      | zero => omega
      | succ r =>
        obtain ⟨l, hl, hpl⟩ := pick_list n (fun i (x : Vl (r + 1)) => (∃ e, Five w g (0 + i * 5) e ∧ VSeg (From B w) w (r + 1) e x) ∧ bndV (r + 1) x) fun i hi => by
          have hz : ∀ q, q < 5 → i * 5 + q < cur.size := fun q hq => by omega
          have hG := hcell i _ _ _ _ _ (Array.getElem?_eq_getElem (hz 0 (by omega))) (Array.getElem?_eq_getElem (hz 1 (by omega))) (Array.getElem?_eq_getElem (hz 2 (by omega))) (Array.getElem?_eq_getElem (hz 3 (by omega))) (Array.getElem?_eq_getElem (hz 4 (by omega)))
          obtain ⟨x, hx, hbx⟩ := Hw.valB h hM hM2 r _ ((hG.more hM).shp (Shp.refl w) (Rks.refl _ _) (by omega))
          refine ⟨x, ⟨_, ⟨?_, ?_, ?_, ?_, ?_⟩, hx⟩, hbx⟩
          · rw [Nat.zero_add, cell_of_row w g _ cur _ fr hg]; exact Array.getElem?_eq_getElem (hz 0 (by omega))
          · rw [Nat.zero_add, cell_of_row w g _ cur _ fr hg]; exact Array.getElem?_eq_getElem (hz 1 (by omega))
          · rw [Nat.zero_add, cell_of_row w g _ cur _ fr hg]; exact Array.getElem?_eq_getElem (hz 2 (by omega))
          · rw [Nat.zero_add, cell_of_row w g _ cur _ fr hg]; exact Array.getElem?_eq_getElem (hz 3 (by omega))
          · rw [Nat.zero_add, cell_of_row w g _ cur _ fr hg]; exact Array.getElem?_eq_getElem (hz 4 (by omega))
        subst hl
        exact ⟨(x0, x1, xs, ks, l), (VSeg_succ _ _ _ _ _).2 ⟨rfl, rfl, hT, hK, some ⟨g, 0, none⟩, cap, rfl, g2, g3, by simp, .inr ⟨g, 0, rfl, ⟨hB, hlt⟩, fun i hi => (hpl i hi).1⟩⟩, by show xs.length ≤ 1048576; omega, by show ks.length ≤ 1048576; omega, hk2, by show l.length ≤ _; omega, fun i hi => (hpl i hi).2⟩
end Go.Proofs.Ytenfnbnhdmkhkaa
/-
  Two values that are drawn to be held against each other. No statement is proved here.
-/
namespace Go.Proofs.Ytenfnbnhdmkhkaa
open Go.RowKit
set_option linter.unusedVariables false
set_option linter.unusedSimpArgs false

/-- Five cells can be read, all in blocks from B on. -/
def RdF (B : Nat) (w : World) (c : Value × Value × Value × Value × Value) : Prop := ∃ D, ∃ v : Vl D, VSeg (From B w) w D c v
/-- Five cells can be read. -/
def Rd (w : World) (c : Value × Value × Value × Value × Value) : Prop := ∃ D, ∃ v : Vl D, VSeg (fun b => b < w.heap.size) w D c v

theorem RdF.on {B : Nat} {w w' : World} {c : Value × Value × Value × Value × Value} (h : RdF B w c) (ha : ∀ b, B ≤ b → b < w.heap.size → w'.heap[b]? = w.heap[b]?) (hz : w.heap.size ≤ w'.heap.size) : RdF B w' c := by
  obtain ⟨D, v, hv⟩ := h
  exact ⟨D, v, VSeg.mono (fun b hb => ⟨hb.1, Nat.lt_of_lt_of_le hb.2 hz⟩) D (VSeg.agree (fun b hb => ha b hb.1 hb.2) D hv)⟩
theorem RdF.rd {B : Nat} {w : World} {c : Value × Value × Value × Value × Value} (h : RdF B w c) : Rd w c := by
  obtain ⟨D, v, hv⟩ := h
  exact ⟨D, v, VSeg.mono (fun b hb => hb.2) D hv⟩
theorem Rd.on {w w' : World} {c : Value × Value × Value × Value × Value} (h : Rd w c) (hb : Below w.heap.size w w') : Rd w' c := by
  obtain ⟨D, v, hv⟩ := h
  have hz := hb.size
  exact ⟨D, v, VSeg.mono (fun b hb => by omega) D (VSeg.agree (agree_below hb) D hv)⟩
theorem Hs.rd {B M M' r : Nat} {rk : Nat → Nat} {w : World} {g : Nat} {a : Option Addr} {cap : Nat} {cs : List Int} {c : Value × Value × Value × Value × Value} (h : Hs B M rk w g a cap cs) (hG : Grp B M' rk r w c) (hM : M ≤ M') : RdF B w c := by
  obtain ⟨v, hv⟩ := h.1.val hM r c hG
  exact ⟨_, v, hv⟩

theorem set5_row {w : World} {g : Nat} {z0 z1 z2 z3 z4 : Value} (c0 c1 c2 c3 c4 : Value) (h : w.heap[g]? = some (.cells #[z0, z1, z2, z3, z4] 26 (0, 0))) : (set5 w g 0 c0 c1 c2 c3 c4).heap[g]? = some (.cells #[c0, c1, c2, c3, c4] 26 (0, 0)) := by
  have e := set5_heap (j := 0) c0 c1 c2 c3 c4 h
  rw [show arrSet5 #[z0, z1, z2, z3, z4] 0 c0 c1 c2 c3 c4 = #[c0, c1, c2, c3, c4] from rfl] at e
  exact e
theorem set5_twice {w : World} {R1 R2 : Nat} {z0 z1 z2 z3 z4 y0 y1 y2 y3 y4 : Value} (c0 c1 c2 c3 c4 d0 d1 d2 d3 d4 : Value) (h1 : w.heap[R1]? = some (.cells #[z0, z1, z2, z3, z4] 26 (0, 0))) (h2 : w.heap[R2]? = some (.cells #[y0, y1, y2, y3, y4] 26 (0, 0))) (hne : R1 ≠ R2) :
    (set5 (set5 w R1 0 c0 c1 c2 c3 c4) R2 0 d0 d1 d2 d3 d4).heap[R1]? = some (.cells #[c0, c1, c2, c3, c4] 26 (0, 0)) ∧ (set5 (set5 w R1 0 c0 c1 c2 c3 c4) R2 0 d0 d1 d2 d3 d4).heap[R2]? = some (.cells #[d0, d1, d2, d3, d4] 26 (0, 0)) := by
  have e1 := set5_row c0 c1 c2 c3 c4 h1
  have e2 := (set5_other w R1 0 c0 c1 c2 c3 c4 R2 (Ne.symm hne)).trans h2
  generalize set5 w R1 0 c0 c1 c2 c3 c4 = w1 at *
  exact ⟨(set5_other w1 R2 0 d0 d1 d2 d3 d4 R1 hne).trans e1, set5_row d0 d1 d2 d3 d4 e2⟩
theorem two_fin {w : World} {R1 R2 : Nat} {z0 z1 z2 z3 z4 y0 y1 y2 y3 y4 : Value} (c0 c1 c2 c3 c4 d0 d1 d2 d3 d4 : Value) (h1 : w.heap[R1]? = some (.cells #[z0, z1, z2, z3, z4] 26 (0, 0))) (h2 : w.heap[R2]? = some (.cells #[y0, y1, y2, y3, y4] 26 (0, 0))) (hne : R1 ≠ R2) :
    (set5 (set5 w R1 0 c0 c1 c2 c3 c4) R2 0 d0 d1 d2 d3 d4).heap[R1]? = some (.cells #[c0, c1, c2, c3, c4] 26 (0, 0)) ∧ (set5 (set5 w R1 0 c0 c1 c2 c3 c4) R2 0 d0 d1 d2 d3 d4).heap[R2]? = some (.cells #[d0, d1, d2, d3, d4] 26 (0, 0)) := set5_twice _ _ _ _ _ _ _ _ _ _ h1 h2 hne
theorem two_fin2 {w : World} {R1 R2 : Nat} {z0 z1 z2 z3 z4 y0 y1 y2 y3 y4 : Value} (c0 c1 c2 c3 c4 d0 d1 d2 d3 d4 : Value) (h1 : w.heap[R1]? = some (.cells #[z0, z1, z2, z3, z4] 26 (0, 0))) (h2 : w.heap[R2]? = some (.cells #[y0, y1, y2, y3, y4] 26 (0, 0))) (hne : R1 ≠ R2) :
    (set5 (set5 w R2 0 d0 d1 d2 d3 d4) R1 0 c0 c1 c2 c3 c4).heap[R1]? = some (.cells #[c0, c1, c2, c3, c4] 26 (0, 0)) ∧ (set5 (set5 w R2 0 d0 d1 d2 d3 d4) R1 0 c0 c1 c2 c3 c4).heap[R2]? = some (.cells #[d0, d1, d2, d3, d4] 26 (0, 0)) := by
  obtain ⟨h3, h4⟩ := set5_twice (w := w) d0 d1 d2 d3 d4 c0 c1 c2 c3 c4 h2 h1 (Ne.symm hne)
  exact ⟨h4, h3⟩

/-- What the draw leaves: two values that can be read. -/
def PairEnd (w : World) (e : Ending) (w' : World) : Prop :=
  ∃ (ak an : Int) (a2 : Option Addr) (l2 p2 : Nat) (a3 : Option Addr) (l3 p3 : Nat) (a4 : Option Addr) (l4 p4 : Nat) (bk bn : Int) (b2 : Option Addr) (m2 q2 : Nat) (b3 : Option Addr) (m3 q3 : Nat) (b4 : Option Addr) (m4 q4 : Nat), e = .returned (.tuple #[.agg #[.int .i64 ak, .int .i64 an, .slice a2 l2 p2, .slice a3 l3 p3, .slice a4 l4 p4], .agg #[.int .i64 bk, .int .i64 bn, .slice b2 m2 q2, .slice b3 m3 q3, .slice b4 m4 q4]]) ∧ Rd w' (.int .i64 ak, .int .i64 an, .slice a2 l2 p2, .slice a3 l3 p3, .slice a4 l4 p4) ∧ Rd w' (.int .i64 bk, .int .i64 bn, .slice b2 m2 q2, .slice b3 m3 q3, .slice b4 m4 q4) ∧ Below w.heap.size w w'

section
variable {w wz : World} {ak an : Int} {a2 : Option Addr} {l2 p2 : Nat} {a3 : Option Addr} {l3 p3 : Nat} {a4 : Option Addr} {l4 p4 : Nat} {bk bn : Int} {b2 : Option Addr} {m2 q2 : Nat} {b3 : Option Addr} {m3 q3 : Nat} {b4 : Option Addr} {m4 q4 : Nat} {z0 z1 z2 z3 z4 y0 y1 y2 y3 y4 : Value} {R1 R2 : Nat}
theorem pair_of {wf : World} (hA : RdF (w.heap.size + 2) wz (.int .i64 ak, .int .i64 an, .slice a2 l2 p2, .slice a3 l3 p3, .slice a4 l4 p4)) (hB : RdF (w.heap.size + 2) wz (.int .i64 bk, .int .i64 bn, .slice b2 m2 q2, .slice b3 m3 q3, .slice b4 m4 q4)) (hb : Below w.heap.size w wz) (ho : ∀ b, b ≠ w.heap.size → b ≠ w.heap.size + 1 → wf.heap[b]? = wz.heap[b]?) (h5 : wf.os = wz.os ∧ wf.tape = wz.tape ∧ wf.output = wz.output ∧ wf.heap.size = wz.heap.size) : PairEnd w (.returned (.tuple #[.agg #[.int .i64 ak, .int .i64 an, .slice a2 l2 p2, .slice a3 l3 p3, .slice a4 l4 p4], .agg #[.int .i64 bk, .int .i64 bn, .slice b2 m2 q2, .slice b3 m3 q3, .slice b4 m4 q4]])) wf :=
  ⟨ak, an, a2, l2, p2, a3, l3, p3, a4, l4, p4, bk, bn, b2, m2, q2, b3, m3, q3, b4, m4, q4, rfl, (hA.on (fun b h1 _ => ho b (by omega) (by omega)) (by omega)).rd, (hB.on (fun b h1 _ => ho b (by omega) (by omega)) (by omega)).rd, ⟨h5.1.trans hb.os, h5.2.1.trans hb.tape, h5.2.2.1.trans hb.output, by have := hb.size; omega, fun b hb' => (ho b (by omega) (by omega)).trans (hb.block b hb')⟩⟩
theorem set5_same (w : World) (g j : Nat) (c0 c1 c2 c3 c4 : Value) : (set5 w g j c0 c1 c2 c3 c4).os = w.os ∧ (set5 w g j c0 c1 c2 c3 c4).tape = w.tape ∧ (set5 w g j c0 c1 c2 c3 c4).output = w.output ∧ (set5 w g j c0 c1 c2 c3 c4).heap.size = w.heap.size := ⟨(set5_grown w g j c0 c1 c2 c3 c4).os, (set5_grown w g j c0 c1 c2 c3 c4).tape, (set5_grown w g j c0 c1 c2 c3 c4).output, set5_size w g j c0 c1 c2 c3 c4⟩
theorem pair_end (hA : RdF (w.heap.size + 2) wz (.int .i64 ak, .int .i64 an, .slice a2 l2 p2, .slice a3 l3 p3, .slice a4 l4 p4)) (hB : RdF (w.heap.size + 2) wz (.int .i64 bk, .int .i64 bn, .slice b2 m2 q2, .slice b3 m3 q3, .slice b4 m4 q4)) (hb : Below w.heap.size w wz) : PairEnd w (.returned (.tuple #[.agg #[.int .i64 ak, .int .i64 an, .slice a2 l2 p2, .slice a3 l3 p3, .slice a4 l4 p4], .agg #[.int .i64 bk, .int .i64 bn, .slice b2 m2 q2, .slice b3 m3 q3, .slice b4 m4 q4]])) (set5 (set5 wz w.heap.size 0 (.int .i64 ak) (.int .i64 an) (.slice a2 l2 p2) (.slice a3 l3 p3) (.slice a4 l4 p4)) (w.heap.size + 1) 0 (.int .i64 bk) (.int .i64 bn) (.slice b2 m2 q2) (.slice b3 m3 q3) (.slice b4 m4 q4)) := by
  have h1 := set5_same wz w.heap.size 0 (.int .i64 ak) (.int .i64 an) (.slice a2 l2 p2) (.slice a3 l3 p3) (.slice a4 l4 p4)
  have o1 : ∀ b, b ≠ w.heap.size → (set5 wz w.heap.size 0 (.int .i64 ak) (.int .i64 an) (.slice a2 l2 p2) (.slice a3 l3 p3) (.slice a4 l4 p4)).heap[b]? = wz.heap[b]? := fun b hb => set5_other wz w.heap.size 0 (.int .i64 ak) (.int .i64 an) (.slice a2 l2 p2) (.slice a3 l3 p3) (.slice a4 l4 p4) b hb
  generalize set5 wz w.heap.size 0 (.int .i64 ak) (.int .i64 an) (.slice a2 l2 p2) (.slice a3 l3 p3) (.slice a4 l4 p4) = wa at *
  have h2 := set5_same wa (w.heap.size + 1) 0 (.int .i64 bk) (.int .i64 bn) (.slice b2 m2 q2) (.slice b3 m3 q3) (.slice b4 m4 q4)
  have o2 : ∀ b, b ≠ w.heap.size + 1 → (set5 wa (w.heap.size + 1) 0 (.int .i64 bk) (.int .i64 bn) (.slice b2 m2 q2) (.slice b3 m3 q3) (.slice b4 m4 q4)).heap[b]? = wa.heap[b]? := fun b hb => set5_other wa (w.heap.size + 1) 0 (.int .i64 bk) (.int .i64 bn) (.slice b2 m2 q2) (.slice b3 m3 q3) (.slice b4 m4 q4) b hb
  generalize set5 wa (w.heap.size + 1) 0 (.int .i64 bk) (.int .i64 bn) (.slice b2 m2 q2) (.slice b3 m3 q3) (.slice b4 m4 q4) = wf at *
  exact pair_of hA hB hb (fun b n1 n2 => (o2 b n2).trans (o1 b n1)) ⟨h2.1.trans h1.1, h2.2.1.trans h1.2.1, h2.2.2.1.trans h1.2.2.1, h2.2.2.2.trans h1.2.2.2⟩
theorem pair_end2 (hA : RdF (w.heap.size + 2) wz (.int .i64 ak, .int .i64 an, .slice a2 l2 p2, .slice a3 l3 p3, .slice a4 l4 p4)) (hB : RdF (w.heap.size + 2) wz (.int .i64 bk, .int .i64 bn, .slice b2 m2 q2, .slice b3 m3 q3, .slice b4 m4 q4)) (hb : Below w.heap.size w wz) : PairEnd w (.returned (.tuple #[.agg #[.int .i64 ak, .int .i64 an, .slice a2 l2 p2, .slice a3 l3 p3, .slice a4 l4 p4], .agg #[.int .i64 bk, .int .i64 bn, .slice b2 m2 q2, .slice b3 m3 q3, .slice b4 m4 q4]])) (set5 (set5 wz (w.heap.size + 1) 0 (.int .i64 bk) (.int .i64 bn) (.slice b2 m2 q2) (.slice b3 m3 q3) (.slice b4 m4 q4)) w.heap.size 0 (.int .i64 ak) (.int .i64 an) (.slice a2 l2 p2) (.slice a3 l3 p3) (.slice a4 l4 p4)) := by
  have h1 := set5_same wz (w.heap.size + 1) 0 (.int .i64 bk) (.int .i64 bn) (.slice b2 m2 q2) (.slice b3 m3 q3) (.slice b4 m4 q4)
  have o1 : ∀ b, b ≠ w.heap.size + 1 → (set5 wz (w.heap.size + 1) 0 (.int .i64 bk) (.int .i64 bn) (.slice b2 m2 q2) (.slice b3 m3 q3) (.slice b4 m4 q4)).heap[b]? = wz.heap[b]? := fun b hb => set5_other wz (w.heap.size + 1) 0 (.int .i64 bk) (.int .i64 bn) (.slice b2 m2 q2) (.slice b3 m3 q3) (.slice b4 m4 q4) b hb
  generalize set5 wz (w.heap.size + 1) 0 (.int .i64 bk) (.int .i64 bn) (.slice b2 m2 q2) (.slice b3 m3 q3) (.slice b4 m4 q4) = wa at *
  have h2 := set5_same wa w.heap.size 0 (.int .i64 ak) (.int .i64 an) (.slice a2 l2 p2) (.slice a3 l3 p3) (.slice a4 l4 p4)
  have o2 : ∀ b, b ≠ w.heap.size → (set5 wa w.heap.size 0 (.int .i64 ak) (.int .i64 an) (.slice a2 l2 p2) (.slice a3 l3 p3) (.slice a4 l4 p4)).heap[b]? = wa.heap[b]? := fun b hb => set5_other wa w.heap.size 0 (.int .i64 ak) (.int .i64 an) (.slice a2 l2 p2) (.slice a3 l3 p3) (.slice a4 l4 p4) b hb
  generalize set5 wa w.heap.size 0 (.int .i64 ak) (.int .i64 an) (.slice a2 l2 p2) (.slice a3 l3 p3) (.slice a4 l4 p4) = wf at *
  exact pair_of hA hB hb (fun b n1 n2 => (o2 b n1).trans (o1 b n2)) ⟨h2.1.trans h1.1, h2.2.1.trans h1.2.1, h2.2.2.1.trans h1.2.2.1, h2.2.2.2.trans h1.2.2.2⟩
end

theorem below_heap2 {B : Nat} {w w' wx : World} (h : Below B wx w') (e : wx.heap = w.heap) (e1 : wx.os = w.os) (e2 : wx.tape = w.tape) (e3 : wx.output = w.output) : Below B w w' := ⟨h.os.trans e1, h.tape.trans e2, h.output.trans e3, by rw [← e]; exact h.size, fun b hb => by rw [← e]; exact h.block b hb⟩
theorem Below.on2 {N : Nat} {w w1 w2 : World} (h : Below N w w1) (k : Below w1.heap.size w1 w2) (hN : N ≤ w1.heap.size := by first | exact h.size | omega) : Below N w w2 := h.trans (k.mono hN)

/-- What a copy leaves beside the value. -/
def OwnPair (B : Nat) (w4 : World) (e : Ending) (w5 : World) : Prop :=
  ∃ (bk bn : Int) (b2 : Option Addr) (m2 q2 : Nat) (b3 : Option Addr) (m3 q3 : Nat) (b4 : Option Addr) (m4 q4 : Nat), e = .returned (.agg #[.int .i64 bk, .int .i64 bn, .slice b2 m2 q2, .slice b3 m3 q3, .slice b4 m4 q4]) ∧ RdF B w5 (.int .i64 bk, .int .i64 bn, .slice b2 m2 q2, .slice b3 m3 q3, .slice b4 m4 q4) ∧ Below w4.heap.size w4 w5
theorem own_pair {B D : Nat} {w4 wy : World} {c0 c1 c2 c3 c4 : Value} {v : Vl D} (hv : VSeg (From B w4) w4 D (c0, c1, c2, c3, c4) v) (hb : bndV D v) (e0 : wy.heap = w4.heap) (e1 : wy.os = w4.os) (e2 : wy.tape = w4.tape) (e3 : wy.output = w4.output) (hB : B ≤ w4.heap.size) : Calls Try.prog 25 #[.agg #[c0, c1, c2, c3, c4]] wy (OwnPair B w4) := by
  have hz : wy.heap.size = w4.heap.size := by rw [e0]
  have hvy : VSeg (fun b => b < w4.heap.size) wy D (c0, c1, c2, c3, c4) v := VSeg.mono (fun b h => h.2) D (VSeg.agree (fun b _ => by rw [e0]) D hv)
  refine (l2own_bnd D w4.heap.size c0 c1 c2 c3 c4 v wy hvy (by omega) hb).mono ?_
  rintro e w5 ⟨u0, u1, u2, u3, u4, rfl, Bs, hO, hBs, h5⟩
  obtain ⟨k, n, s2, n2, r2, s3, n3, r3, s4, n4, r4, rfl, rfl, rfl, rfl, rfl⟩ := VOwn.form D hO
  exact ⟨k, n, s2, n2, r2, s3, n3, r3, s4, n4, r4, rfl, ⟨D, v, VSeg.mono (fun b hb => by have := hBs b hb; exact ⟨by omega, this.2⟩) D (VOwn.seg D hO)⟩, by rw [hz] at h5; exact below_heap2 h5 e0 e1 e2 e3⟩

set_option maxHeartbeats 6400000 in
set_option maxRecDepth 100000 in
theorem DrawValCmp_any (a : Option Addr) (cap : Nat) (cs : List Int) (w : World) (ha : Seg w a cs) (hl : cs.length ≤ maxLen) : Calls Try.prog 6 #[.slice a cs.length cap] w (PairEnd w) := by
  have hb0 : Below w.heap.size w ((w.alloc (.cells #[.int .i64 0, .int .i64 0, .slice none 0 0, .slice none 0 0, .slice none 0 0] 26)).alloc (.cells #[.int .i64 0, .int .i64 0, .slice none 0 0, .slice none 0 0, .slice none 0 0] 26)) := ((Below.refl _ w).alloc (Nat.le_refl _) _).alloc (by simp) _
  have hR10 : ((w.alloc (.cells #[.int .i64 0, .int .i64 0, .slice none 0 0, .slice none 0 0, .slice none 0 0] 26)).alloc (.cells #[.int .i64 0, .int .i64 0, .slice none 0 0, .slice none 0 0, .slice none 0 0] 26)).heap[w.heap.size]? = some (.cells #[.int .i64 0, .int .i64 0, .slice none 0 0, .slice none 0 0, .slice none 0 0] 26) := (Below.heap_alloc _ _ _ (by simp)).trans (heap_alloc_new w _)
  have hR20 : ((w.alloc (.cells #[.int .i64 0, .int .i64 0, .slice none 0 0, .slice none 0 0, .slice none 0 0] 26)).alloc (.cells #[.int .i64 0, .int .i64 0, .slice none 0 0, .slice none 0 0, .slice none 0 0] 26)).heap[w.heap.size + 1]? = some (.cells #[.int .i64 0, .int .i64 0, .slice none 0 0, .slice none 0 0, .slice none 0 0] 26) := by
    have := heap_alloc_new (w.alloc (.cells #[.int .i64 0, .int .i64 0, .slice none 0 0, .slice none 0 0, .slice none 0 0] 26)) (.cells #[.int .i64 0, .int .i64 0, .slice none 0 0, .slice none 0 0, .slice none 0 0] 26)
    simpa using this
  have hN := l1New_hs 64 a cap cs ((w.alloc (.cells #[.int .i64 0, .int .i64 0, .slice none 0 0, .slice none 0 0, .slice none 0 0] 26)).alloc (.cells #[.int .i64 0, .int .i64 0, .slice none 0 0, .slice none 0 0, .slice none 0 0] 26)) (ha.grow hb0) hl
  simp only [World.size_alloc] at hN
  have HN := hide' hN
  have H0 := hide' (And.intro hb0 (And.intro hR10 hR20))
  clear hN hb0 hR10 hR20
  generalize cs.length = cl at *
  go_enter Try.func6, Try.ntmps6
  go_wp2_with fail
  refine HN.out.mono ?_
  rintro e w1 ⟨rfl, hS1, hB1⟩
  have HB1 : Hid (Below w.heap.size w w1) := hide' ⟨hB1.os.trans H0.out.1.os, hB1.tape.trans H0.out.1.tape, hB1.output.trans H0.out.1.output, by have := hB1.size; simp at this; omega, fun b hb => (hB1.block b (by first | omega | (simp <;> omega))).trans (H0.out.1.block b hb)⟩
  have HR11 := hide' ((hB1.block w.heap.size (by first | omega | (simp <;> omega))).trans H0.out.2.1)
  have HR21 := hide' ((hB1.block (w.heap.size + 1) (by first | omega | (simp <;> omega))).trans H0.out.2.2)
  have hz1 : w.heap.size + 1 + 1 < w1.heap.size := hS1.lt
  have H2 := hide' (l2any_hs _ 64 _ _ _ _ _ w1 hS1 (by omega) (by omega))
  clear HN H0 hB1 hS1
  go_wp2_with fail
  refine H2.out.mono ?_
  rintro e w2 ⟨ak, an, a2, l2, p2, a3, l3, p3, a4, l4, p4, rk2, rfl, hG2, hS2, hB2, hR2, hSh2⟩
  have hH3 := hS2.1.alloc_v 11 _ _ _ _ _ hG2
  have hb3 : Below w2.heap.size w2 (w2.alloc (.cells #[.int .i64 ak, .int .i64 an, .slice a2 l2 p2, .slice a3 l3 p3, .slice a4 l4 p4] 26)) := (Below.refl _ _).alloc (Nat.le_refl _) _
  have hS3 := hS2.below hH3 hb3
  have hG3 := hG2.shp (Shp.alloc w2 (.cells #[.int .i64 ak, .int .i64 an, .slice a2 l2 p2, .slice a3 l3 p3, .slice a4 l4 p4] 26)) (rkUp_old rk2 w2.heap.size 11) (Nat.le_refl _)
  have hk3 : rkUp rk2 w2.heap.size 11 w2.heap.size = 11 := rkUp_at _ _ _
  have hA3 : (w2.alloc (.cells #[.int .i64 ak, .int .i64 an, .slice a2 l2 p2, .slice a3 l3 p3, .slice a4 l4 p4] 26)).heap[w2.heap.size]? = some (.cells #[.int .i64 ak, .int .i64 an, .slice a2 l2 p2, .slice a3 l3 p3, .slice a4 l4 p4] 26) := heap_alloc_new _ _
  generalize rkUp rk2 w2.heap.size 11 = rk3 at *
  have H3 := hide' (l1Once_hs hS3 4 (by omega))
  have hz2 : w1.heap.size ≤ w2.heap.size := hB2.size
  have HB2 : Hid (Below w.heap.size w (w2.alloc (.cells #[.int .i64 ak, .int .i64 an, .slice a2 l2 p2, .slice a3 l3 p3, .slice a4 l4 p4] 26))) := hide' ((HB1.out.trans (hB2.mono (by omega))).alloc (by omega) _)
  have HR12 := hide' ((Below.heap_alloc w2 (.cells #[.int .i64 ak, .int .i64 an, .slice a2 l2 p2, .slice a3 l3 p3, .slice a4 l4 p4] 26) w.heap.size (by omega)).trans ((hB2.block w.heap.size (by omega)).trans HR11.out))
  have HR22 := hide' ((Below.heap_alloc w2 (.cells #[.int .i64 ak, .int .i64 an, .slice a2 l2 p2, .slice a3 l3 p3, .slice a4 l4 p4] 26) (w.heap.size + 1) (by omega)).trans ((hB2.block (w.heap.size + 1) (by omega)).trans HR21.out))
  have HG3 := hide' hG3
  have HA3 := hide' hA3
  clear hH3 hb3 hS3 hG3 hA3 hG2 hS2 hB2 hR2 hSh2 H2 HB1 HR11 HR21
  go_wp2_with fail
  refine H3.out.mono ?_
  rintro e w4 ⟨bo, rfl, hS4, hc4, hs4⟩
  have hgne : w.heap.size + 1 + 1 < w2.heap.size := by omega
  have HS4 := hide' hS4
  have HG4 := hide' (HG3.out.shp hs4 (Rks.refl _ _) (Nat.le_refl _))
  have hz4 : w2.heap.size < w4.heap.size := by have := hc4.2; simp at this; omega
  have hA4 := (hc4.1.block w2.heap.size (by simp) (by simp <;> omega)).trans HA3.out
  have HB4 : Hid (Below w.heap.size w w4) := hide' (HB2.out.grown hc4.1 HB2.out.size (by intro j hj; simp at hj; omega))
  have HR14 := hide' ((hc4.1.block w.heap.size (by simp <;> omega) (by simp <;> omega)).trans HR12.out)
  have HR24 := hide' ((hc4.1.block (w.heap.size + 1) (by simp <;> omega) (by simp <;> omega)).trans HR22.out)
  have HA4 := hide' hA4
  obtain ⟨c0, c1, c2, c3, c4, _⟩ := row5 hA4
  clear hS4 hc4 hs4 hA4 H3 HG3 HA3 HB2 HR12 HR22
  have hne12 : w.heap.size ≠ w.heap.size + 1 := by omega
  cases bo
  · go_wp2_with fail
    go_region_law (first | (go_simp; go_at_call 23; refine (l2any_hs (w.heap.size + 1 + 1) 65 rk3 (w.heap.size + 1 + 1) a cap cs _ (by exact HS4.out.heap rfl) (by omega) (by omega)).mono ?_; rintro e w5 ⟨bk, bn, b2, m2, q2, b3, m3, q3, b4, m4, q4, rk5, rfl, hG5, hS5, hB5, hR5, hSh5⟩; obtain ⟨xk, xn, x2, y2, z2, x3, y3, z3, x4, y4, z4, hX, hGX⟩ := (Bx5.shp (V := w2.heap.size) ⟨_, HA4.out, rfl⟩ ((Shp.heap (w := w4) (w' := w4.drew) rfl).trans hSh5)).form hS5.1 (by omega); have HPre := hide' (hS5.rd (((HG4.out.up.shp ((Shp.heap (w := w4) (w' := w4.drew) rfl).trans hSh5) hR5 (Nat.le_refl _)).more (Nat.le_succ 65))) (Nat.le_refl 66)); have HPost := hide' (hS5.rd hGX (Nat.le_refl _)); have HPb := hide' (hS5.rd hG5 (Nat.le_refl _)); have HBl : Hid (Below w.heap.size w w5) := hide' (HB4.out.trans ((below_heap2 (w := w4) hB5 rfl rfl rfl rfl).mono (by omega))); have HR1 := hide' ((hB5.block w.heap.size (by omega)).trans HR14.out); have HR2 := hide' ((hB5.block (w.heap.size + 1) (by omega)).trans HR24.out); obtain ⟨d0, d1, d2, d3, d4, _⟩ := row5 hX; obtain ⟨r0, r1, r2, r3, r4, rf⟩ := row5 HR1.out; have f0 := rf 0; have f1 := rf 1; have f2 := rf 2; have f3 := rf 3; have f4 := rf 4; obtain ⟨t0, t1, t2, t3, t4, tf⟩ := row5 HR2.out; have h0 := tf 0; have h1 := tf 1; have h2 := tf 2; have h3 := tf 3; have h4 := tf 4; clear rf tf; clear hX hGX hG5 hS5 hB5 hR5 hSh5) | fail)
    all_goals go_wp2_with fail
    all_goals first | (obtain ⟨hF1, hF2⟩ := two_fin (.int .i64 ak) (.int .i64 an) (.slice a2 l2 p2) (.slice a3 l3 p3) (.slice a4 l4 p4) (.int .i64 bk) (.int .i64 bn) (.slice b2 m2 q2) (.slice b3 m3 q3) (.slice b4 m4 q4) HR1.out HR2.out hne12; obtain ⟨o0, o1, o2, o3, o4, _⟩ := row5 hF1; obtain ⟨s0, s1, s2, s3, s4, _⟩ := row5 hF2; clear hF1 hF2; simp only [set5, Nat.zero_add] at o0 o1 o2 o3 o4 s0 s1 s2 s3 s4; refine bodyPost_ret (v := .tuple #[.agg #[.int .i64 ak, .int .i64 an, .slice a2 l2 p2, .slice a3 l3 p3, .slice a4 l4 p4], .agg #[.int .i64 bk, .int .i64 bn, .slice b2 m2 q2, .slice b3 m3 q3, .slice b4 m4 q4]]) (by simp [results, Try.results6, go_sem, o0, o1, o2, o3, o4, s0, s1, s2, s3, s4]; done) rfl ?_; clear o0 o1 o2 o3 o4 s0 s1 s2 s3 s4; have hE := pair_end HPre.out HPb.out HBl.out; simp only [set5, Nat.zero_add] at hE; with_reducible exact hE) | (obtain ⟨hF1, hF2⟩ := two_fin2 (.int .i64 ak) (.int .i64 an) (.slice a2 l2 p2) (.slice a3 l3 p3) (.slice a4 l4 p4) (.int .i64 bk) (.int .i64 bn) (.slice b2 m2 q2) (.slice b3 m3 q3) (.slice b4 m4 q4) HR1.out HR2.out hne12; obtain ⟨o0, o1, o2, o3, o4, _⟩ := row5 hF1; obtain ⟨s0, s1, s2, s3, s4, _⟩ := row5 hF2; clear hF1 hF2; simp only [set5, Nat.zero_add] at o0 o1 o2 o3 o4 s0 s1 s2 s3 s4; refine bodyPost_ret (v := .tuple #[.agg #[.int .i64 ak, .int .i64 an, .slice a2 l2 p2, .slice a3 l3 p3, .slice a4 l4 p4], .agg #[.int .i64 bk, .int .i64 bn, .slice b2 m2 q2, .slice b3 m3 q3, .slice b4 m4 q4]]) (by simp [results, Try.results6, go_sem, o0, o1, o2, o3, o4, s0, s1, s2, s3, s4]; done) rfl ?_; clear o0 o1 o2 o3 o4 s0 s1 s2 s3 s4; have hE := pair_end2 HPre.out HPb.out HBl.out; simp only [set5, Nat.zero_add] at hE; with_reducible exact hE) | (obtain ⟨hF1, hF2⟩ := two_fin (.int .i64 xk) (.int .i64 xn) (.slice x2 y2 z2) (.slice x3 y3 z3) (.slice x4 y4 z4) (.int .i64 bk) (.int .i64 bn) (.slice b2 m2 q2) (.slice b3 m3 q3) (.slice b4 m4 q4) HR1.out HR2.out hne12; obtain ⟨o0, o1, o2, o3, o4, _⟩ := row5 hF1; obtain ⟨s0, s1, s2, s3, s4, _⟩ := row5 hF2; clear hF1 hF2; simp only [set5, Nat.zero_add] at o0 o1 o2 o3 o4 s0 s1 s2 s3 s4; refine bodyPost_ret (v := .tuple #[.agg #[.int .i64 xk, .int .i64 xn, .slice x2 y2 z2, .slice x3 y3 z3, .slice x4 y4 z4], .agg #[.int .i64 bk, .int .i64 bn, .slice b2 m2 q2, .slice b3 m3 q3, .slice b4 m4 q4]]) (by simp [results, Try.results6, go_sem, o0, o1, o2, o3, o4, s0, s1, s2, s3, s4]; done) rfl ?_; clear o0 o1 o2 o3 o4 s0 s1 s2 s3 s4; have hE := pair_end HPost.out HPb.out HBl.out; simp only [set5, Nat.zero_add] at hE; with_reducible exact hE) | (obtain ⟨hF1, hF2⟩ := two_fin2 (.int .i64 xk) (.int .i64 xn) (.slice x2 y2 z2) (.slice x3 y3 z3) (.slice x4 y4 z4) (.int .i64 bk) (.int .i64 bn) (.slice b2 m2 q2) (.slice b3 m3 q3) (.slice b4 m4 q4) HR1.out HR2.out hne12; obtain ⟨o0, o1, o2, o3, o4, _⟩ := row5 hF1; obtain ⟨s0, s1, s2, s3, s4, _⟩ := row5 hF2; clear hF1 hF2; simp only [set5, Nat.zero_add] at o0 o1 o2 o3 o4 s0 s1 s2 s3 s4; refine bodyPost_ret (v := .tuple #[.agg #[.int .i64 xk, .int .i64 xn, .slice x2 y2 z2, .slice x3 y3 z3, .slice x4 y4 z4], .agg #[.int .i64 bk, .int .i64 bn, .slice b2 m2 q2, .slice b3 m3 q3, .slice b4 m4 q4]]) (by simp [results, Try.results6, go_sem, o0, o1, o2, o3, o4, s0, s1, s2, s3, s4]; done) rfl ?_; clear o0 o1 o2 o3 o4 s0 s1 s2 s3 s4; have hE := pair_end2 HPost.out HPb.out HBl.out; simp only [set5, Nat.zero_add] at hE; with_reducible exact hE)
  · obtain ⟨va, hva, hbva⟩ := HS4.out.1.valB (Nat.le_refl _) (by omega) _ _ HG4.out
    have HPa : Hid (RdF (w.heap.size + 2) w4 (.int .i64 ak, .int .i64 an, .slice a2 l2 p2, .slice a3 l3 p3, .slice a4 l4 p4)) := hide' ⟨_, va, hva⟩
    have HOw : Hid (∀ wy : World, (wy.heap = w4.heap ∧ wy.os = w4.os ∧ wy.tape = w4.tape ∧ wy.output = w4.output) → Calls Try.prog 25 #[.agg #[.int .i64 ak, .int .i64 an, .slice a2 l2 p2, .slice a3 l3 p3, .slice a4 l4 p4]] wy (OwnPair (w.heap.size + 2) w4)) := fun wy hy => own_pair hva hbva hy.1 hy.2.1 hy.2.2.1 hy.2.2.2 (by omega)
    clear hva hbva
    go_wp2_with fail
    go_region_law (first | (go_simp; go_at_call 25; refine (HOw.out _ (by exact ⟨rfl, rfl, rfl, rfl⟩)).mono ?_; rintro e w5 ⟨bk, bn, b2, m2, q2, b3, m3, q3, b4, m4, q4, rfl, hPb, hB5⟩; have HPre := hide' (HPa.out.on (fun b h1 h2 => hB5.block b h2) hB5.size); have HPb := hide' hPb; have HBl : Hid (Below w.heap.size w w5) := hide' (HB4.out.trans (hB5.mono HB4.out.size)); have HR1 := hide' ((hB5.block w.heap.size (by omega)).trans HR14.out); have HR2 := hide' ((hB5.block (w.heap.size + 1) (by omega)).trans HR24.out); obtain ⟨d0, d1, d2, d3, d4, _⟩ := row5 ((hB5.block w2.heap.size hz4).trans HA4.out); obtain ⟨r0, r1, r2, r3, r4, rf⟩ := row5 HR1.out; have f0 := rf 0; have f1 := rf 1; have f2 := rf 2; have f3 := rf 3; have f4 := rf 4; obtain ⟨t0, t1, t2, t3, t4, tf⟩ := row5 HR2.out; have h0 := tf 0; have h1 := tf 1; have h2 := tf 2; have h3 := tf 3; have h4 := tf 4; clear rf tf; clear hPb hB5) | fail)
    all_goals go_wp2_with fail
    all_goals first | (obtain ⟨hF1, hF2⟩ := two_fin (.int .i64 ak) (.int .i64 an) (.slice a2 l2 p2) (.slice a3 l3 p3) (.slice a4 l4 p4) (.int .i64 bk) (.int .i64 bn) (.slice b2 m2 q2) (.slice b3 m3 q3) (.slice b4 m4 q4) HR1.out HR2.out hne12; obtain ⟨o0, o1, o2, o3, o4, _⟩ := row5 hF1; obtain ⟨s0, s1, s2, s3, s4, _⟩ := row5 hF2; clear hF1 hF2; simp only [set5, Nat.zero_add] at o0 o1 o2 o3 o4 s0 s1 s2 s3 s4; refine bodyPost_ret (v := .tuple #[.agg #[.int .i64 ak, .int .i64 an, .slice a2 l2 p2, .slice a3 l3 p3, .slice a4 l4 p4], .agg #[.int .i64 bk, .int .i64 bn, .slice b2 m2 q2, .slice b3 m3 q3, .slice b4 m4 q4]]) (by simp [results, Try.results6, go_sem, o0, o1, o2, o3, o4, s0, s1, s2, s3, s4]; done) rfl ?_; clear o0 o1 o2 o3 o4 s0 s1 s2 s3 s4; have hE := pair_end HPre.out HPb.out HBl.out; simp only [set5, Nat.zero_add] at hE; with_reducible exact hE) | (obtain ⟨hF1, hF2⟩ := two_fin2 (.int .i64 ak) (.int .i64 an) (.slice a2 l2 p2) (.slice a3 l3 p3) (.slice a4 l4 p4) (.int .i64 bk) (.int .i64 bn) (.slice b2 m2 q2) (.slice b3 m3 q3) (.slice b4 m4 q4) HR1.out HR2.out hne12; obtain ⟨o0, o1, o2, o3, o4, _⟩ := row5 hF1; obtain ⟨s0, s1, s2, s3, s4, _⟩ := row5 hF2; clear hF1 hF2; simp only [set5, Nat.zero_add] at o0 o1 o2 o3 o4 s0 s1 s2 s3 s4; refine bodyPost_ret (v := .tuple #[.agg #[.int .i64 ak, .int .i64 an, .slice a2 l2 p2, .slice a3 l3 p3, .slice a4 l4 p4], .agg #[.int .i64 bk, .int .i64 bn, .slice b2 m2 q2, .slice b3 m3 q3, .slice b4 m4 q4]]) (by simp [results, Try.results6, go_sem, o0, o1, o2, o3, o4, s0, s1, s2, s3, s4]; done) rfl ?_; clear o0 o1 o2 o3 o4 s0 s1 s2 s3 s4; have hE := pair_end2 HPre.out HPb.out HBl.out; simp only [set5, Nat.zero_add] at hE; with_reducible exact hE)
end Go.Proofs.Ytenfnbnhdmkhkaa
