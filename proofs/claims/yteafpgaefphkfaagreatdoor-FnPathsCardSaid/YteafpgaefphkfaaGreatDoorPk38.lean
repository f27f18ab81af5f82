/-
  Texts that a law leans on, one behind the other; no statement is proved here.
-/
import Derived.Test.YteafpgaefphkfaaGreatDoorPk9
import Derived.Test.YteafpgaefphkfaaGreatDoorPk3
import Derived.Deep.RegionLaw
import Derived.Deep.CutRange
/-
  l2set of the specification on a heap on which values are drawn. No statement is proved here.
-/
namespace Go.Proofs.YteafpgaefphkfaaGreatDoor
open Go.RowKit
set_option linter.unusedVariables false
set_option linter.unusedSimpArgs false

/-- The map is being made anew. -/
def SIz (B M : Nat) (rk1 : Nat → Nat) (r : Nat) (w1 : World) (O m mL : Nat) (rk' : Nat → Nat) (wr : World) (pK : Option Addr) (cK : Nat) (pL : Option Addr) (cL : Nat) : Prop :=
  SIy B M rk1 r w1 O 5 m mL rk' wr pK cK pL cL ∧ w1.grownBy wr (some O) ∧ Shp w1 wr

theorem siz_on {B M : Nat} {rk1 rk' rk2 : Nat → Nat} {r : Nat} {w1 wr w' : World} {O m mL m' mL' : Nat} {pK pK' : Option Addr} {cK cK' : Nat} {pL pL' : Option Addr} {cL cL' : Nat} (h : SIz B M rk1 r w1 O m mL rk' wr pK cK pL cL) (hs : SIy B M rk1 r w1 O 5 m' mL' rk2 w' pK' cK' pL' cL') (ho : Off w1.heap.size O wr w') : SIz B M rk1 r w1 O m' mL' rk2 w' pK' cK' pL' cL' :=
  ⟨hs, ho.grown h.2.1, h.2.2.trans ho.2.2⟩

theorem Hw.set5 {B M : Nat} {rk : Nat → Nat} {w : World} {g : Nat} {c0 c1 c2 c3 c4 d0 d1 d2 d3 d4 : Value} (h : Hw B M rk w) (hg : w.heap[g]? = some (.cells #[c0, c1, c2, c3, c4] 29 (0, 0))) (hG : Grp B M rk (rk g) w (d0, d1, d2, d3, d4)) : Hw B M rk (set5 w g 0 d0 d1 d2 d3 d4) ∧ Shp w (set5 w g 0 d0 d1 d2 d3 d4) := by
  have hh := set5_heap (j := 0) d0 d1 d2 d3 d4 hg
  have hS : Shp w (Go.Proofs.YteafpgaefphkfaaGreatDoor.set5 w g 0 d0 d1 d2 d3 d4) := fun b cur T fr hT hb => by
    by_cases he : b = g
    · subst he
      rw [hg] at hb
      simp only [Option.some.injEq, Obj.cells.injEq] at hb
      obtain ⟨rfl, rfl, rfl⟩ := hb
      exact ⟨_, hh, by rw [arrSet5_size]⟩
    · exact ⟨cur, (set5_other w g 0 _ _ _ _ _ b he).trans hb, rfl⟩
  refine ⟨h.step hS (Rks.refl _ _) fun b hb hbz => ?_, hS⟩
  by_cases he : b = g
  · subst he
    refine .inr fun cur T fr hb' => ?_
    rw [hh] at hb'
    simp only [Option.some.injEq, Obj.cells.injEq] at hb'
    obtain ⟨rfl, rfl, rfl⟩ := hb'
    refine ⟨fun h => absurd h (by decide), fun h => absurd h (by decide), fun _ => ⟨rfl, fun j e0 e1 e2 e3 e4 h0 h1 h2 h3 h4 => ?_⟩⟩
    have ea : arrSet5 #[c0, c1, c2, c3, c4] 0 d0 d1 d2 d3 d4 = #[d0, d1, d2, d3, d4] := by rfl
    rw [ea] at h0 h1 h2 h3 h4
    have hj : j = 0 := by
      have := (Array.getElem?_eq_some_iff.1 h0).1
      simp at this
      omega
    subst hj
    simp at h0 h1 h2 h3 h4
    subst h0 h1 h2 h3 h4
    exact hG.shp hS (Rks.refl _ _) (Nat.le_refl _)
  · exact .inl ⟨by rw [set5_size] at hbz; exact hbz, set5_other w g 0 _ _ _ _ _ b he⟩

theorem four_boxes_hw (w : World) (o1 o2 o3 o4 : Obj) : ((((w.alloc o1).alloc o2).alloc o3).alloc o4).heap[w.heap.size]? = some o1 ∧ ((((w.alloc o1).alloc o2).alloc o3).alloc o4).heap[w.heap.size + 1]? = some o2 ∧ ((((w.alloc o1).alloc o2).alloc o3).alloc o4).heap[w.heap.size + 1 + 1]? = some o3 ∧ ((((w.alloc o1).alloc o2).alloc o3).alloc o4).heap[w.heap.size + 1 + 1 + 1]? = some o4 ∧ ((((w.alloc o1).alloc o2).alloc o3).alloc o4).heap.size = w.heap.size + 4 ∧ Below w.heap.size w ((((w.alloc o1).alloc o2).alloc o3).alloc o4) := by
  have n1 := (MapKept.heap_alloc w o1).1
  have n2 := (MapKept.heap_alloc (w.alloc o1) o2).1
  have n3 := (MapKept.heap_alloc ((w.alloc o1).alloc o2) o3).1
  have n4 := (MapKept.heap_alloc (((w.alloc o1).alloc o2).alloc o3) o4).1
  simp only [World.size_alloc] at n2 n3 n4
  have k2 : ∀ b, b < w.heap.size + 1 → ((w.alloc o1).alloc o2).heap[b]? = (w.alloc o1).heap[b]? := fun b hb => Below.heap_alloc _ _ _ (by simpa using hb)
  have k3 : ∀ b, b < w.heap.size + 2 → (((w.alloc o1).alloc o2).alloc o3).heap[b]? = ((w.alloc o1).alloc o2).heap[b]? := fun b hb => Below.heap_alloc _ _ _ (by simp; omega)
  have k4 : ∀ b, b < w.heap.size + 3 → ((((w.alloc o1).alloc o2).alloc o3).alloc o4).heap[b]? = (((w.alloc o1).alloc o2).alloc o3).heap[b]? := fun b hb => Below.heap_alloc _ _ _ (by simp; omega)
  exact ⟨(k4 _ (by omega)).trans ((k3 _ (by omega)).trans ((k2 _ (by omega)).trans n1)), (k4 _ (by omega)).trans ((k3 _ (by omega)).trans n2), (k4 _ (by omega)).trans n3, n4, by simp, ((((Below.refl _ _).alloc (Nat.le_refl _) o1).alloc (by simp) o2).alloc (by simp; omega) o3).alloc (by simp; omega) o4⟩

/-- The four boxes of l2set. -/
theorem four_hw {B M r : Nat} {rk : Nat → Nat} {w : World} {c0 c1 c2 c3 c4 d0 d1 d2 d3 d4 : Value} (k k5 : Int) (hH : Hw B M rk w) (hv : Grp B M rk (r + 1) w (c0, c1, c2, c3, c4)) (hx : Grp B M rk r w (d0, d1, d2, d3, d4)) :
    ∃ rk1, Hw B M rk1 ((((w.alloc (.cells #[c0, c1, c2, c3, c4] 29)).alloc (.cells #[d0, d1, d2, d3, d4] 29)).alloc (.cells #[.int .i64 k, .int .i64 0, .slice none 0 0, .slice none 0 0, .slice none 0 0] 29)).alloc (.cells #[.int .i64 k5, .int .i64 0, .slice none 0 0, .slice none 0 0, .slice none 0 0] 29)) ∧ Rks rk rk1 w.heap.size ∧ rk1 (w.heap.size + 1 + 1) = r + 1 ∧ rk1 (w.heap.size + 1 + 1 + 1) = r + 1 ∧
      Shp w ((((w.alloc (.cells #[c0, c1, c2, c3, c4] 29)).alloc (.cells #[d0, d1, d2, d3, d4] 29)).alloc (.cells #[.int .i64 k, .int .i64 0, .slice none 0 0, .slice none 0 0, .slice none 0 0] 29)).alloc (.cells #[.int .i64 k5, .int .i64 0, .slice none 0 0, .slice none 0 0, .slice none 0 0] 29)) := by
  have h1 := hH.alloc_v (r + 1) c0 c1 c2 c3 c4 hv
  have h2 := h1.alloc_v r d0 d1 d2 d3 d4 (hx.shp (Shp.alloc _ _) (rkUp_old _ _ _) (Nat.le_refl _))
  have h3 := h2.alloc_v (r + 1) (.int .i64 k) (.int .i64 0) (.slice none 0 0) (.slice none 0 0) (.slice none 0 0) (grp_leaf _ _ _ _ _ _ _)
  have h4 := h3.alloc_v (r + 1) (.int .i64 k5) (.int .i64 0) (.slice none 0 0) (.slice none 0 0) (.slice none 0 0) (grp_leaf _ _ _ _ _ _ _)
  refine ⟨_, h4, fun g hg => ?_, ?_, ?_, (((Shp.alloc _ _).trans (Shp.alloc _ _)).trans (Shp.alloc _ _)).trans (Shp.alloc _ _)⟩
  · simp only [rkUp, World.size_alloc]
    rw [if_neg (by omega), if_neg (by omega), if_neg (by omega), if_neg (by omega)]
  · simp [rkUp]
  · simp [rkUp]

/-- A text of a row of texts. -/
theorem Hw.key_at {B M M' : Nat} {rk : Nat → Nat} {w : World} {p : Nat → Prop} {a : Option Addr} {n c k : Nat} (h : Hw B M rk w) (hs : Sli B M' 22 1 p w (.slice a n c)) (hk : k < n) : ∃ b off ak kn akc xs, a = some ⟨b, off, none⟩ ∧ B ≤ b ∧ b < w.heap.size ∧ w.cell? ⟨b, off + k, none⟩ = some (.slice ak kn akc) ∧ Sli B M 5 1 (fun _ => True) w (.slice ak kn akc) ∧ Seg w ak xs ∧ kn = xs.length := by
  obtain ⟨a', n', c', e, h1, h2, h3, ⟨rfl, rfl⟩ | ⟨g, cur, fr, rfl, hB, _, hg, hc⟩⟩ := hs
  · simp only [Value.slice.injEq] at e; omega
  · simp only [Value.slice.injEq] at e
    obtain ⟨rfl, rfl, rfl⟩ := e
    have hS := ((h g hB cur _ fr hg).2.1 rfl).2 k cur[k] (Array.getElem?_eq_getElem (by omega))
    obtain ⟨xs, ⟨ak, akc, e2, hsg, _⟩, _⟩ := h.text hS
    refine ⟨g, 0, ak, xs.length, akc, xs, rfl, hB, (Array.getElem?_eq_some_iff.1 hg).1, ?_, by rw [← e2]; exact hS, hsg, rfl⟩
    rw [Nat.zero_add, cell_of_row w g k cur _ fr hg, ← e2]
    exact Array.getElem?_eq_getElem (by omega)

theorem Sli.form {B M s : Nat} {T : TypeId} {p : Nat → Prop} {w : World} {v : Value} (h : Sli B M T s p w v) : ∃ a n c, v = .slice a n c := by
  obtain ⟨a, n, c, e, _⟩ := h
  exact ⟨a, n, c, e⟩

/-- A value of a row of values. -/
theorem Hw.val_at {B M M' r : Nat} {rk : Nat → Nat} {w : World} {a : Option Addr} {n c k : Nat} (h : Hw B M rk w) (hs : Sli B M' 29 5 (fun g => rk g < r + 1) w (.slice a n c)) (hk : k < n) : ∃ b off zk zn g2 n2 r2 g3 n3 r3 g4 n4 r4, a = some ⟨b, off, none⟩ ∧ B ≤ b ∧ b < w.heap.size ∧ Five w b (off + k * 5) (.int .i64 zk, .int .i64 zn, .slice g2 n2 r2, .slice g3 n3 r3, .slice g4 n4 r4) ∧ Grp B M rk r w (.int .i64 zk, .int .i64 zn, .slice g2 n2 r2, .slice g3 n3 r3, .slice g4 n4 r4) := by
  obtain ⟨a', n', c', e, h1, h2, h3, ⟨rfl, rfl⟩ | ⟨g, cur, fr, rfl, hB, hp, hg, hc⟩⟩ := hs
  · simp only [Value.slice.injEq] at e; omega
  · simp only [Value.slice.injEq] at e
    obtain ⟨rfl, rfl, rfl⟩ := e
    have hz : ∀ q, q < 5 → k * 5 + q < cur.size := fun q hq => by omega
    have hG := ((h g hB cur _ fr hg).2.2 rfl).2 k _ _ _ _ _ (Array.getElem?_eq_getElem (hz 0 (by omega))) (Array.getElem?_eq_getElem (hz 1 (by omega))) (Array.getElem?_eq_getElem (hz 2 (by omega))) (Array.getElem?_eq_getElem (hz 3 (by omega))) (Array.getElem?_eq_getElem (hz 4 (by omega)))
    obtain ⟨⟨x0, h0⟩, ⟨x1, h1'⟩, g2, g3, g4⟩ := id hG
    simp only at h0 h1' g2 g3 g4
    obtain ⟨s2, m2, r2, e2⟩ := g2.form
    obtain ⟨s3, m3, r3, e3⟩ := g3.form
    obtain ⟨s4, m4, r4, e4⟩ := g4.form
    refine ⟨g, 0, x0, x1, s2, m2, r2, s3, m3, r3, s4, m4, r4, rfl, hB, (Array.getElem?_eq_some_iff.1 hg).1, ⟨?_, ?_, ?_, ?_, ?_⟩, ?_⟩
    · rw [Nat.zero_add, cell_of_row w g _ cur _ fr hg, ← h0]; exact Array.getElem?_eq_getElem (hz 0 (by omega))
    · rw [Nat.zero_add, cell_of_row w g _ cur _ fr hg, ← h1']; exact Array.getElem?_eq_getElem (hz 1 (by omega))
    · rw [Nat.zero_add, cell_of_row w g _ cur _ fr hg, ← e2]; exact Array.getElem?_eq_getElem (hz 2 (by omega))
    · rw [Nat.zero_add, cell_of_row w g _ cur _ fr hg, ← e3]; exact Array.getElem?_eq_getElem (hz 3 (by omega))
    · rw [Nat.zero_add, cell_of_row w g _ cur _ fr hg, ← e4]; exact Array.getElem?_eq_getElem (hz 4 (by omega))
    · rw [h0, h1', e2, e3, e4] at hG
      exact hG.shp (Shp.refl _) (Rks.refl _ _) (by omega)

/-- What l2set leaves: a map, of as many keys as parts. -/
def SetEnd (B M : Nat) (rk : Nat → Nat) (r n : Nat) (w : World) (e : Ending) (w' : World) : Prop :=
  ∃ (a3 : Option Addr) (c3 : Nat) (a4 : Option Addr) (c4 n' : Nat) (rk' : Nat → Nat), e = .returned (.agg #[.int .i64 5, .int .i64 0, .slice none 0 0, .slice a3 n' c3, .slice a4 n' c4]) ∧ n' ≤ n + 1 ∧
    Grp B M rk' (r + 1) w' (.int .i64 5, .int .i64 0, .slice none 0 0, .slice a3 n' c3, .slice a4 n' c4) ∧ Hw B M rk' w' ∧ Rks rk rk' w.heap.size ∧ Below w.heap.size w w'

theorem set_end {B M r n m : Nat} {rk rk1 rk' : Nat → Nat} {w w1 wr : World} {pK pL : Option Addr} {cK cL : Nat} (h : SIz B M rk1 r w1 (w.heap.size + 1 + 1 + 1) m m rk' wr pK cK pL cL) (hm : m ≤ n + 1) (hz : w1.heap.size = w.heap.size + 4) (hB1 : Below w.heap.size w w1) (hk : Rks rk rk1 w.heap.size) (hBw : B ≤ w.heap.size) (hR : wr.heap[w.heap.size + 1 + 1]? = some (.cells #[.int .i64 0, .int .i64 0, .slice none 0 0, .slice none 0 0, .slice none 0 0] 29 (0, 0))) (hkR : rk1 (w.heap.size + 1 + 1) = r + 1) :
    SetEnd B M rk r n w (.returned (.agg #[.int .i64 5, .int .i64 0, .slice none 0 0, .slice pK m cK, .slice pL m cL])) (set5 wr (w.heap.size + 1 + 1) 0 (.int .i64 5) (.int .i64 0) (.slice none 0 0) (.slice pK m cK) (.slice pL m cL)) := by
  obtain ⟨⟨h1, h2, h3, h4, h5, h6⟩, hg, hs⟩ := h
  have hG : Grp B M rk' (r + 1) wr (.int .i64 5, .int .i64 0, .slice none 0 0, .slice pK m cK, .slice pL m cL) := ⟨⟨5, rfl⟩, ⟨0, rfl⟩, sli_nil _ _ _ _ _ _, h3.base (by omega) fun _ h => h, h4.base (by omega) fun _ h => h.2⟩
  have hrk : rk' (w.heap.size + 1 + 1) = r + 1 := (h2 _ (by omega)).trans hkR
  obtain ⟨k1, k2⟩ := h1.set5 hR (by rw [hrk]; exact hG)
  have hb : Below w.heap.size w wr := hB1.grown hg (by omega) (by intro j hj; simp at hj; omega)
  exact ⟨pK, cK, pL, cL, m, rk', rfl, hm, hG.shp k2 (Rks.refl _ _) (Nat.le_refl _), k1, fun g hg' => (h2 g (by omega)).trans (hk g hg'), hb.grown (set5_grown wr _ 0 _ _ _ _ _) hb.size (by intro j hj; simp at hj; omega)⟩

set_option maxHeartbeats 12800000 in
set_option maxRecDepth 100000 in
theorem l2set_hw (B M : Nat) (rk : Nat → Nat) (r : Nat) (ck cn : Int) (a2 : Option Addr) (l2 p2 : Nat) (a3 : Option Addr) (n p3 : Nat) (a4 : Option Addr) (p4 : Nat) (xk xn : Int) (b2 : Option Addr) (m2 q2 : Nat) (b3 : Option Addr) (m3 q3 : Nat) (b4 : Option Addr) (m4 q4 : Nat) (ka : Option Addr) (kl kc : Nat) (w : World)
    (hH : Hw B M rk w) (hBw : B ≤ w.heap.size) (hv : Grp B M rk (r + 1) w (.int .i64 ck, .int .i64 cn, .slice a2 l2 p2, .slice a3 n p3, .slice a4 n p4)) (hT : Sli B M 5 1 (fun _ => True) w (.slice ka kl kc)) (hx : Grp B M rk r w (.int .i64 xk, .int .i64 xn, .slice b2 m2 q2, .slice b3 m3 q3, .slice b4 m4 q4)) (hn : n < M) (hM : M ≤ 1000000) :
    Calls Tryz.prog 35 #[.agg #[.int .i64 ck, .int .i64 cn, .slice a2 l2 p2, .slice a3 n p3, .slice a4 n p4], .slice ka kl kc, .agg #[.int .i64 xk, .int .i64 xn, .slice b2 m2 q2, .slice b3 m3 q3, .slice b4 m4 q4]] w (SetEnd B M rk r n w) := by
  obtain ⟨rk1, hH1, hR1, hkR, hkO, hS1⟩ := four_hw 0 5 hH hv hx
  have H4 := hide' (four_boxes_hw w (.cells #[.int .i64 ck, .int .i64 cn, .slice a2 l2 p2, .slice a3 n p3, .slice a4 n p4] 29) (.cells #[.int .i64 xk, .int .i64 xn, .slice b2 m2 q2, .slice b3 m3 q3, .slice b4 m4 q4] 29) (.cells #[.int .i64 0, .int .i64 0, .slice none 0 0, .slice none 0 0, .slice none 0 0] 29) (.cells #[.int .i64 5, .int .i64 0, .slice none 0 0, .slice none 0 0, .slice none 0 0] 29))
  obtain ⟨key, ⟨ka', kc', ek, hkey, _⟩, _⟩ := hH.text hT
  simp only [Value.slice.injEq] at ek
  obtain ⟨rfl, rfl, rfl⟩ := ek
  have HSg := hide' hkey
  have HKs := hide' (fun k hk => hH.key_at (k := k) hv.2.2.2.1 hk)
  have HVs := hide' (fun k hk => hH.val_at (k := k) hv.2.2.2.2 hk)
  have HH1 := hide' hH1
  have HR1 := hide' hR1
  have HkR := hide' hkR
  have HS1 := hide' hS1
  have HBw := hide' hBw
  have hnM : n < 1000000 := by omega
  have HMl := hide' hM
  have HrO : Hid (r < rk1 (w.heap.size + 1 + 1 + 1)) := hide' (by omega)
  have HBO : Hid (B ≤ w.heap.size + 1 + 1 + 1) := hide' (by omega)
  have HT0 := hide' hT
  have HX0 := hide' hx
  clear hH hv hT hx hkey hH1 hR1 hkR hkO hS1 hM hBw
  go_enter Tryz.func35, Tryz.ntmps35
  go_wp2_with fail
  obtain ⟨hP, hX, hR, hO, hsz, hB1⟩ := H4.out
  generalize ((((w.alloc (.cells #[.int .i64 ck, .int .i64 cn, .slice a2 l2 p2, .slice a3 n p3, .slice a4 n p4] 29)).alloc (.cells #[.int .i64 xk, .int .i64 xn, .slice b2 m2 q2, .slice b3 m3 q3, .slice b4 m4 q4] 29)).alloc (.cells #[.int .i64 0, .int .i64 0, .slice none 0 0, .slice none 0 0, .slice none 0 0] 29)).alloc (.cells #[.int .i64 5, .int .i64 0, .slice none 0 0, .slice none 0 0, .slice none 0 0] 29)) = w1 at *
  have HOz : Hid (w.heap.size + 1 + 1 + 1 < w1.heap.size) := hide' (by omega)
  have HTa : Hid (∀ wx, Shp w1 wx → Sli B M 5 1 (fun _ => True) wx (.slice ka key.length kc)) := fun wx hs => HT0.out.shp row3_b (HS1.out.trans hs) fun _ _ h => h
  have HXa : Hid (∀ wx rkx, Shp w1 wx → Rks rk1 rkx w1.heap.size → Grp B M rkx r wx (.int .i64 xk, .int .i64 xn, .slice b2 m2 q2, .slice b3 m3 q3, .slice b4 m4 q4)) := fun wx rkx hs hr => HX0.out.shp (HS1.out.trans hs) (HR1.out.trans hr (by omega)) (Nat.le_refl _)
  have HP := hide' hP
  have HXb := hide' hX
  have HR := hide' hR
  have HB1 := hide' hB1
  have HS0 : Hid (SIz B M rk1 r w1 (w.heap.size + 1 + 1 + 1) 0 0 rk1 w1 none 0 none 0) := hide' ⟨⟨HH1.out, Rks.refl _ _, sli_nil _ _ _ _ _ _, sli_nil _ _ _ _ _ _, hO, Nat.le_refl _⟩, World.grownBy.refl _ _, Shp.refl _⟩
  clear H4 hP hX hR hO hB1 HT0 HX0 HH1
  go_loopw [8, 9] (fun put i wr => ∃ (k m : Nat) (pb : Bool), k ≤ n ∧ i = .int .i64 k ∧ put = .bool pb ∧ m ≤ k + (if pb then 1 else 0) ∧ ∃ (rkr : Nat → Nat) (pK : Option Addr) (cK : Nat) (pL : Option Addr) (cL : Nat), Hid (SIz B M rk1 r w1 (w.heap.size + 1 + 1 + 1) m m rkr wr pK cK pL cL)) (fun _ i _ => n - (intOf i).toNat)
  case atStart => exact ⟨0, 0, false, Nat.zero_le _, rfl, rfl, Nat.zero_le _, _, _, _, _, _, HS0⟩
  case round =>
    obtain ⟨k, m, pb, hk, rfl, rfl, hmk, rkr, pK, cK, pL, cL, hI⟩ := hrel
    have hg := hI.out.2.1
    have hzr := hg.size
    have hPr := (hg.block w.heap.size (by omega) (by simp; omega)).trans HP.out
    have hRr := (hg.block (w.heap.size + 1 + 1) (by omega) (by simp)).trans HR.out
    have hBr : Below w.heap.size w wr := HB1.out.grown hg (by omega) (by intro j hj; simp at hj; omega)
    obtain ⟨p0, p1, p2', p3', p4', _⟩ := row5 hPr
    obtain ⟨o0, o1, o2, o3, o4, of⟩ := row5 hI.out.1.2.2.2.2.1
    by_cases hlt : k < n
    · obtain ⟨bK, oK, ak, kn, akc, kk, rfl, _, hbK, hcK0, hSk, hsgk, rfl⟩ := HKs.out k hlt
      obtain ⟨bL, oL, zk, zn, g2, n2, r2, g3, n3, r3, g4, n4, r4, rfl, _, hbL, hfv, hGk⟩ := HVs.out k hlt
      have hcK : wr.cell? ⟨bK, oK + k, none⟩ = some (.slice ak kk.length akc) := (World.cell?_of_block (hBr.block bK hbK)).trans hcK0
      have HF5 : Hid (∀ wx, Below w.heap.size w wx → wx.cell? ⟨bL, oL + k * 5, none⟩ = some (.int .i64 zk) ∧ wx.cell? ⟨bL, oL + k * 5 + 1, none⟩ = some (.int .i64 zn) ∧ wx.cell? ⟨bL, oL + k * 5 + 2, none⟩ = some (.slice g2 n2 r2) ∧ wx.cell? ⟨bL, oL + k * 5 + 3, none⟩ = some (.slice g3 n3 r3) ∧ wx.cell? ⟨bL, oL + k * 5 + 4, none⟩ = some (.slice g4 n4 r4)) := fun wx hb => hfv.agree (R := fun b => b < w.heap.size) (agree_below hb) hbL
      have HCK : Hid (∀ wx, Below w.heap.size w wx → wx.cell? ⟨bK, oK + k, none⟩ = some (.slice ak kk.length akc)) := fun wx hb => (World.cell?_of_block (hb.block bK hbK)).trans hcK0
      have HKk : Hid (∀ wx, Shp w1 wx → Sli B M 5 1 (fun _ => True) wx (.slice ak kk.length akc)) := fun wx hs => hSk.shp row3_b (HS1.out.trans hs) fun _ _ h => h
      have HVk : Hid (∀ wx rkx, Shp w1 wx → Rks rk1 rkx w1.heap.size → Grp B M rkx r wx (.int .i64 zk, .int .i64 zn, .slice g2 n2 r2, .slice g3 n3 r3, .slice g4 n4 r4)) := fun wx rkx hs hr => hGk.shp (HS1.out.trans hs) (HR1.out.trans hr (by omega)) (Nat.le_refl _)
      have HBy := hide' (l2bytes_any ka ak kc akc key kk wr (HSg.out.below hBr HSg.out.lt) (hsgk.below hBr hsgk.lt))
      have hlt' : (k : Int) < (n : Int) := by omega
      have hk0 : (0 : Int) ≤ (k : Int) := Int.natCast_nonneg _
      have hcs := bytesC_cases key kk
      generalize bytesC key kk = cI at *
      have HI := hide' hI.out
      have HBr := hide' hBr
      generalize kk.length = kn at *
      clear hg hI hBr hPr hRr hfv hGk hSk hsgk hcK0
      go_wp2_with fail
      refine HBy.out.mono ?_
      rintro e wB ⟨rfl, e1⟩
      obtain rfl := e1
      clear HBy
      cases pb
      · have hmk' : m ≤ k := by simpa using hmk
        clear hmk
        rcases hcs with rfl | rfl | rfl
        · obtain ⟨_, _, _, o3a, _, _⟩ := box_later HI.out.1.2.2.2.2.1
          go_upto_region 9 with (at_builtin; refine wpList_set_k rfl _ _ rfl HI.out.1 (by rfl) (by rfl) HBO.out HOz.out HrO.out (by omega) HMl.out (HTa.out _ HI.out.2.2) ⟨rfl, rfl, rfl, rfl⟩ ?_; intro g5 cp5 w5 hV5 hS5 hO5; obtain ⟨_, _, _, ck5, _, _⟩ := row5 hV5; have hf5 := frozen_of_row w5 (w.heap.size + 1 + 1 + 1) 3 _ _ hV5; replace hS5 := hide' (siz_on HI.out hS5 hO5); clear hV5 hO5)
          generalize hw5 : w5.setCell ⟨(w.heap.size + 1 + 1 + 1), 3, none⟩ (.slice (some ⟨g5, 0, none⟩) (m + 1) cp5) = wq at *
          have hzq := hS5.out.2.1.size
          have hqX := (hS5.out.2.1.block (w.heap.size + 1) (by omega) (by simp)).trans HXb.out
          obtain ⟨x0, x1, x2, x3, x4, _⟩ := row5 hqX
          obtain ⟨_, _, _, _, o45, _⟩ := row5 hS5.out.1.2.2.2.2.1
          obtain ⟨_, _, _, _, o45a, _⟩ := box_later hS5.out.1.2.2.2.2.1
          clear hw5 hqX o3a
          go_wp2_with (at_builtin; refine wpList_set_v rfl _ _ rfl hS5.out.1 (by rfl) (by rfl) HBO.out HOz.out HrO.out (by omega) HMl.out (HXa.out _ _ hS5.out.2.2 hS5.out.1.2.1) ⟨rfl, rfl, rfl, rfl⟩ ?_; intro g6 cp6 w6 rk6 hV6 hS6 hR6 hO6; obtain ⟨_, _, _, _, cl6, _⟩ := row5 hV6; have hf6 := frozen_of_row w6 (w.heap.size + 1 + 1 + 1) 4 _ _ hV6; replace hS6 := hide' (siz_on hS5.out hS6 hO6); clear hV6 hO6 hR6)
          generalize hw6 : w6.setCell ⟨(w.heap.size + 1 + 1 + 1), 4, none⟩ (.slice (some ⟨g6, 0, none⟩) (m + 1) cp6) = wz at *
          have hzz := hS6.out.2.1.size
          have hBz : Below w.heap.size w wz := HB1.out.grown hS6.out.2.1 (by omega) (by intro j hj; simp at hj; omega)
          obtain ⟨_, _, _, p3z, p4z, _⟩ := row5 ((hS6.out.2.1.block w.heap.size (by omega) (by simp; omega)).trans HP.out)
          have hcz : wz.cell? ⟨bK, oK + k, none⟩ = some (.slice ak kn akc) := HCK.out wz hBz
          clear hw6 hS5 hBz x0 x1 x2 x3 x4 o45 o45a
          obtain ⟨rk9, pK2, cK2, pL2, cL2, hS9⟩ : ∃ (rk9 : Nat → Nat) (pK2 : Option Addr) (cK2 : Nat) (pL2 : Option Addr) (cL2 : Nat), Hid (SIz B M rk1 r w1 (w.heap.size + 1 + 1 + 1) (m + 1) (m + 1) rk9 wz pK2 cK2 pL2 cL2) := ⟨_, _, _, _, _, hS6⟩
          generalize hMM : m + 1 = m1 at *
          have hMk : m1 ≤ k + 1 := by omega
          obtain ⟨_, _, _, o3z, o4z, _⟩ := row5 hS9.out.1.2.2.2.2.1
          clear hS6
          obtain ⟨_, _, _, o3a, _, _⟩ := box_later hS9.out.1.2.2.2.2.1
          go_cut [10] from 12 to 65 (fun s10 wx => s10 = .int .i64 (-1) ∧ ∃ pa ca, Hid (SIz B M rk1 r w1 (w.heap.size + 1 + 1 + 1) (m1 + 1) m1 rk9 wx pa ca pL2 cL2))
          case first =>
            go_region_law (refine step_set_k (by rfl) _ _ (by rfl) hS9.out.1 (by rfl) (by rfl) HBO.out HOz.out HrO.out (by omega) HMl.out (HKk.out _ hS9.out.2.2) ⟨rfl, rfl, rfl, rfl⟩ ?_; intro g7 cp7 w7 hV7 hS7 hO7; obtain ⟨_, _, _, ck7, _, _⟩ := row5 hV7; have hf7 := frozen_of_row w7 (w.heap.size + 1 + 1 + 1) 3 _ _ hV7; replace hS7 := hide' (siz_on hS9.out hS7 hO7); clear hV7 hO7)
            all_goals (go_wp2_with fail; go_meet; exact ⟨rfl, _, _, hS7⟩)
          case rest =>
          obtain ⟨rfl, pa, ca, hS7⟩ := hcut
          have hz7 := hS7.out.2.1.size
          have hB7 : Below w.heap.size w wc := HB1.out.grown hS7.out.2.1 (by omega) (by intro j hj; simp at hj; omega)
          obtain ⟨_, _, _, _, p47, _⟩ := row5 ((hS7.out.2.1.block w.heap.size (by omega) (by simp; omega)).trans HP.out)
          obtain ⟨_, _, _, _, o47, _⟩ := row5 hS7.out.1.2.2.2.2.1
          obtain ⟨_, _, _, _, o4a, _⟩ := box_later hS7.out.1.2.2.2.2.1
          obtain ⟨t0, t1, t2, t3, t4⟩ := HF5.out _ hB7
          clear hB7 o3a
          go_wp2_with fail
          go_region_law (refine step_set_v (by rfl) _ _ (by rfl) hS7.out.1 (by rfl) (by rfl) HBO.out HOz.out HrO.out (by omega) HMl.out (HVk.out _ _ hS7.out.2.2 hS7.out.1.2.1) ⟨rfl, rfl, rfl, rfl⟩ ?_; intro g8 cp8 w8 rk8 hV8 hS8 hR8 hO8; obtain ⟨_, _, _, _, cl8, _⟩ := row5 hV8; have hf8 := frozen_of_row w8 (w.heap.size + 1 + 1 + 1) 4 _ _ hV8; replace hS8 := hide' (siz_on hS7.out hS8 hO8); clear hV8 hO8 hR8)
          all_goals (clear hS7 p47 o47 o4a t0 t1 t2 t3 t4)
          all_goals go_wp2
          all_goals go_roundw
          all_goals first | exact ⟨k + 1, m1 + 1, true, by omega, by go_num, rfl, by simp; omega, _, _, _, _, _, hS8⟩ | (simp [intOf]; omega)
        · obtain ⟨_, _, _, o3a, _, _⟩ := box_later HI.out.1.2.2.2.2.1
          go_upto_region 9 with (at_builtin; refine wpList_set_k rfl _ _ rfl HI.out.1 (by rfl) (by rfl) HBO.out HOz.out HrO.out (by omega) HMl.out (HTa.out _ HI.out.2.2) ⟨rfl, rfl, rfl, rfl⟩ ?_; intro g5 cp5 w5 hV5 hS5 hO5; obtain ⟨_, _, _, ck5, _, _⟩ := row5 hV5; have hf5 := frozen_of_row w5 (w.heap.size + 1 + 1 + 1) 3 _ _ hV5; replace hS5 := hide' (siz_on HI.out hS5 hO5); clear hV5 hO5)
          generalize hw5 : w5.setCell ⟨(w.heap.size + 1 + 1 + 1), 3, none⟩ (.slice (some ⟨g5, 0, none⟩) (m + 1) cp5) = wq at *
          have hzq := hS5.out.2.1.size
          have hqX := (hS5.out.2.1.block (w.heap.size + 1) (by omega) (by simp)).trans HXb.out
          obtain ⟨x0, x1, x2, x3, x4, _⟩ := row5 hqX
          obtain ⟨_, _, _, _, o45, _⟩ := row5 hS5.out.1.2.2.2.2.1
          obtain ⟨_, _, _, _, o45a, _⟩ := box_later hS5.out.1.2.2.2.2.1
          clear hw5 hqX o3a
          go_wp2_with (at_builtin; refine wpList_set_v rfl _ _ rfl hS5.out.1 (by rfl) (by rfl) HBO.out HOz.out HrO.out (by omega) HMl.out (HXa.out _ _ hS5.out.2.2 hS5.out.1.2.1) ⟨rfl, rfl, rfl, rfl⟩ ?_; intro g6 cp6 w6 rk6 hV6 hS6 hR6 hO6; obtain ⟨_, _, _, _, cl6, _⟩ := row5 hV6; have hf6 := frozen_of_row w6 (w.heap.size + 1 + 1 + 1) 4 _ _ hV6; replace hS6 := hide' (siz_on hS5.out hS6 hO6); clear hV6 hO6 hR6)
          go_roundw
          all_goals first | exact ⟨k + 1, m + 1, true, by omega, by go_num, rfl, by simp; omega, _, _, _, _, _, hS6⟩ | (simp [intOf]; omega)
        · go_wp2_with fail
          obtain ⟨_, _, _, o3a, _, _⟩ := box_later HI.out.1.2.2.2.2.1
          go_cut [10] from 12 to 65 (fun s10 wx => s10 = .int .i64 (1) ∧ ∃ pa ca, Hid (SIz B M rk1 r w1 (w.heap.size + 1 + 1 + 1) (m + 1) m rkr wx pa ca pL cL))
          case first =>
            go_region_law (refine step_set_k (by rfl) _ _ (by rfl) HI.out.1 (by rfl) (by rfl) HBO.out HOz.out HrO.out (by omega) HMl.out (HKk.out _ HI.out.2.2) ⟨rfl, rfl, rfl, rfl⟩ ?_; intro g7 cp7 w7 hV7 hS7 hO7; obtain ⟨_, _, _, ck7, _, _⟩ := row5 hV7; have hf7 := frozen_of_row w7 (w.heap.size + 1 + 1 + 1) 3 _ _ hV7; replace hS7 := hide' (siz_on HI.out hS7 hO7); clear hV7 hO7)
            all_goals (go_wp2_with fail; go_meet; exact ⟨rfl, _, _, hS7⟩)
          case rest =>
          obtain ⟨rfl, pa, ca, hS7⟩ := hcut
          have hz7 := hS7.out.2.1.size
          have hB7 : Below w.heap.size w wc := HB1.out.grown hS7.out.2.1 (by omega) (by intro j hj; simp at hj; omega)
          obtain ⟨_, _, _, _, p47, _⟩ := row5 ((hS7.out.2.1.block w.heap.size (by omega) (by simp; omega)).trans HP.out)
          obtain ⟨_, _, _, _, o47, _⟩ := row5 hS7.out.1.2.2.2.2.1
          obtain ⟨_, _, _, _, o4a, _⟩ := box_later hS7.out.1.2.2.2.2.1
          obtain ⟨t0, t1, t2, t3, t4⟩ := HF5.out _ hB7
          clear hB7 o3a
          go_wp2_with fail
          go_region_law (refine step_set_v (by rfl) _ _ (by rfl) hS7.out.1 (by rfl) (by rfl) HBO.out HOz.out HrO.out (by omega) HMl.out (HVk.out _ _ hS7.out.2.2 hS7.out.1.2.1) ⟨rfl, rfl, rfl, rfl⟩ ?_; intro g8 cp8 w8 rk8 hV8 hS8 hR8 hO8; obtain ⟨_, _, _, _, cl8, _⟩ := row5 hV8; have hf8 := frozen_of_row w8 (w.heap.size + 1 + 1 + 1) 4 _ _ hV8; replace hS8 := hide' (siz_on hS7.out hS8 hO8); clear hV8 hO8 hR8)
          all_goals (clear hS7 p47 o47 o4a t0 t1 t2 t3 t4)
          all_goals go_wp2
          all_goals go_roundw
          all_goals first | exact ⟨k + 1, m + 1, false, by omega, by go_num, rfl, by simp; omega, _, _, _, _, _, hS8⟩ | (simp [intOf]; omega)
      · have hmk' : m ≤ k + 1 := by simpa using hmk
        clear hmk
        rcases hcs with rfl | rfl | rfl
        · go_wp2_with fail
          obtain ⟨_, _, _, o3a, _, _⟩ := box_later HI.out.1.2.2.2.2.1
          go_cut [10] from 12 to 65 (fun s10 wx => s10 = .int .i64 (-1) ∧ ∃ pa ca, Hid (SIz B M rk1 r w1 (w.heap.size + 1 + 1 + 1) (m + 1) m rkr wx pa ca pL cL))
          case first =>
            go_region_law (refine step_set_k (by rfl) _ _ (by rfl) HI.out.1 (by rfl) (by rfl) HBO.out HOz.out HrO.out (by omega) HMl.out (HKk.out _ HI.out.2.2) ⟨rfl, rfl, rfl, rfl⟩ ?_; intro g7 cp7 w7 hV7 hS7 hO7; obtain ⟨_, _, _, ck7, _, _⟩ := row5 hV7; have hf7 := frozen_of_row w7 (w.heap.size + 1 + 1 + 1) 3 _ _ hV7; replace hS7 := hide' (siz_on HI.out hS7 hO7); clear hV7 hO7)
            all_goals (go_wp2_with fail; go_meet; exact ⟨rfl, _, _, hS7⟩)
          case rest =>
          obtain ⟨rfl, pa, ca, hS7⟩ := hcut
          have hz7 := hS7.out.2.1.size
          have hB7 : Below w.heap.size w wc := HB1.out.grown hS7.out.2.1 (by omega) (by intro j hj; simp at hj; omega)
          obtain ⟨_, _, _, _, p47, _⟩ := row5 ((hS7.out.2.1.block w.heap.size (by omega) (by simp; omega)).trans HP.out)
          obtain ⟨_, _, _, _, o47, _⟩ := row5 hS7.out.1.2.2.2.2.1
          obtain ⟨_, _, _, _, o4a, _⟩ := box_later hS7.out.1.2.2.2.2.1
          obtain ⟨t0, t1, t2, t3, t4⟩ := HF5.out _ hB7
          clear hB7 o3a
          go_wp2_with fail
          go_region_law (refine step_set_v (by rfl) _ _ (by rfl) hS7.out.1 (by rfl) (by rfl) HBO.out HOz.out HrO.out (by omega) HMl.out (HVk.out _ _ hS7.out.2.2 hS7.out.1.2.1) ⟨rfl, rfl, rfl, rfl⟩ ?_; intro g8 cp8 w8 rk8 hV8 hS8 hR8 hO8; obtain ⟨_, _, _, _, cl8, _⟩ := row5 hV8; have hf8 := frozen_of_row w8 (w.heap.size + 1 + 1 + 1) 4 _ _ hV8; replace hS8 := hide' (siz_on hS7.out hS8 hO8); clear hV8 hO8 hR8)
          all_goals (clear hS7 p47 o47 o4a t0 t1 t2 t3 t4)
          all_goals go_wp2
          all_goals go_roundw
          all_goals first | exact ⟨k + 1, m + 1, true, by omega, by go_num, rfl, by simp; omega, _, _, _, _, _, hS8⟩ | (simp [intOf]; omega)
        · go_wp2
          go_roundw
          all_goals first | exact ⟨k + 1, m, true, by omega, by go_num, rfl, by simp; omega, _, _, _, _, _, HI⟩ | (simp [intOf]; omega)
        · go_wp2_with fail
          obtain ⟨_, _, _, o3a, _, _⟩ := box_later HI.out.1.2.2.2.2.1
          go_cut [10] from 12 to 65 (fun s10 wx => s10 = .int .i64 (1) ∧ ∃ pa ca, Hid (SIz B M rk1 r w1 (w.heap.size + 1 + 1 + 1) (m + 1) m rkr wx pa ca pL cL))
          case first =>
            go_region_law (refine step_set_k (by rfl) _ _ (by rfl) HI.out.1 (by rfl) (by rfl) HBO.out HOz.out HrO.out (by omega) HMl.out (HKk.out _ HI.out.2.2) ⟨rfl, rfl, rfl, rfl⟩ ?_; intro g7 cp7 w7 hV7 hS7 hO7; obtain ⟨_, _, _, ck7, _, _⟩ := row5 hV7; have hf7 := frozen_of_row w7 (w.heap.size + 1 + 1 + 1) 3 _ _ hV7; replace hS7 := hide' (siz_on HI.out hS7 hO7); clear hV7 hO7)
            all_goals (go_wp2_with fail; go_meet; exact ⟨rfl, _, _, hS7⟩)
          case rest =>
          obtain ⟨rfl, pa, ca, hS7⟩ := hcut
          have hz7 := hS7.out.2.1.size
          have hB7 : Below w.heap.size w wc := HB1.out.grown hS7.out.2.1 (by omega) (by intro j hj; simp at hj; omega)
          obtain ⟨_, _, _, _, p47, _⟩ := row5 ((hS7.out.2.1.block w.heap.size (by omega) (by simp; omega)).trans HP.out)
          obtain ⟨_, _, _, _, o47, _⟩ := row5 hS7.out.1.2.2.2.2.1
          obtain ⟨_, _, _, _, o4a, _⟩ := box_later hS7.out.1.2.2.2.2.1
          obtain ⟨t0, t1, t2, t3, t4⟩ := HF5.out _ hB7
          clear hB7 o3a
          go_wp2_with fail
          go_region_law (refine step_set_v (by rfl) _ _ (by rfl) hS7.out.1 (by rfl) (by rfl) HBO.out HOz.out HrO.out (by omega) HMl.out (HVk.out _ _ hS7.out.2.2 hS7.out.1.2.1) ⟨rfl, rfl, rfl, rfl⟩ ?_; intro g8 cp8 w8 rk8 hV8 hS8 hR8 hO8; obtain ⟨_, _, _, _, cl8, _⟩ := row5 hV8; have hf8 := frozen_of_row w8 (w.heap.size + 1 + 1 + 1) 4 _ _ hV8; replace hS8 := hide' (siz_on hS7.out hS8 hO8); clear hV8 hO8 hR8)
          all_goals (clear hS7 p47 o47 o4a t0 t1 t2 t3 t4)
          all_goals go_wp2
          all_goals go_roundw
          all_goals first | exact ⟨k + 1, m + 1, true, by omega, by go_num, rfl, by simp; omega, _, _, _, _, _, hS8⟩ | (simp [intOf]; omega)
    · have hkn : k = n := by omega
      have hltn : ¬ (k : Int) < (n : Int) := by omega
      have HI := hide' hI.out
      have HRr := hide' hRr
      clear hg hI hBr hPr hRr HKs HVs
      cases pb
      · have hmk' : m ≤ k := by simpa using hmk
        clear hmk
        obtain ⟨_, _, _, o3a, _, _⟩ := box_later HI.out.1.2.2.2.2.1
        go_upto_region 16 with (at_builtin; refine wpList_set_k rfl _ _ rfl HI.out.1 (by rfl) (by rfl) HBO.out HOz.out HrO.out (by omega) HMl.out (HTa.out _ HI.out.2.2) ⟨rfl, rfl, rfl, rfl⟩ ?_; intro g5 cp5 w5 hV5 hS5 hO5; obtain ⟨_, _, _, ck5, _, _⟩ := row5 hV5; have hf5 := frozen_of_row w5 (w.heap.size + 1 + 1 + 1) 3 _ _ hV5; replace hS5 := hide' (siz_on HI.out hS5 hO5); clear hV5 hO5)
        generalize hw5 : w5.setCell ⟨(w.heap.size + 1 + 1 + 1), 3, none⟩ (.slice (some ⟨g5, 0, none⟩) (m + 1) cp5) = wq at *
        have hzq := hS5.out.2.1.size
        have hqX := (hS5.out.2.1.block (w.heap.size + 1) (by omega) (by simp)).trans HXb.out
        obtain ⟨x0, x1, x2, x3, x4, _⟩ := row5 hqX
        obtain ⟨_, _, _, _, o45, _⟩ := row5 hS5.out.1.2.2.2.2.1
        obtain ⟨_, _, _, _, o45a, _⟩ := box_later hS5.out.1.2.2.2.2.1
        clear hw5 hqX o3a
        go_upto_region 17 with (at_builtin; refine wpList_set_v rfl _ _ rfl hS5.out.1 (by rfl) (by rfl) HBO.out HOz.out HrO.out (by omega) HMl.out (HXa.out _ _ hS5.out.2.2 hS5.out.1.2.1) ⟨rfl, rfl, rfl, rfl⟩ ?_; intro g6 cp6 w6 rk6 hV6 hS6 hR6 hO6; obtain ⟨_, _, _, _, cl6, _⟩ := row5 hV6; have hf6 := frozen_of_row w6 (w.heap.size + 1 + 1 + 1) 4 _ _ hV6; replace hS6 := hide' (siz_on hS5.out hS6 hO6); clear hV6 hO6 hR6)
        generalize hw6 : w6.setCell ⟨(w.heap.size + 1 + 1 + 1), 4, none⟩ (.slice (some ⟨g6, 0, none⟩) (m + 1) cp6) = wz at *
        have hzz := hS6.out.2.1.size
        obtain ⟨y0, y1, y2, y3, y4, _⟩ := row5 hS6.out.1.2.2.2.2.1
        have HRz := hide' ((hS6.out.2.1.block (w.heap.size + 1 + 1) (by omega) (by simp)).trans HR.out)
        clear hw6 hS5 x0 x1 x2 x3 x4 o45 o45a
        obtain ⟨r0, r1, r2', r3', r4', rf⟩ := row5 HRz.out
        have f0 := rf 0
        have f1 := rf 1
        have f2 := rf 2
        have f3 := rf 3
        have f4 := rf 4
        clear rf
        go_wp2_with fail
        have hrow := set5_heap (j := 0) (.int .i64 5) (.int .i64 0) (.slice none 0 0) (.slice (some ⟨g5, 0, none⟩) (m + 1) cp5) (.slice (some ⟨g6, 0, none⟩) (m + 1) cp6) HRz.out
        have hfin := row5 hrow
        simp only [set5, Nat.zero_add] at hfin
        obtain ⟨q0, q1, q2', q3', q4', _⟩ := hfin
        refine bodyPost_ret (v := .agg #[.int .i64 5, .int .i64 0, .slice none 0 0, (.slice (some ⟨g5, 0, none⟩) (m + 1) cp5), (.slice (some ⟨g6, 0, none⟩) (m + 1) cp6)]) (by simp [results, Tryz.results35, go_sem, q0, q1, q2', q3', q4']) rfl ?_
        exact set_end hS6.out (by omega) hsz HB1.out HR1.out HBw.out HRz.out HkR.out
      · have hmk' : m ≤ k + 1 := by simpa using hmk
        clear hmk
        have HRz := HRr
        obtain ⟨r0, r1, r2', r3', r4', rf⟩ := row5 HRz.out
        have f0 := rf 0
        have f1 := rf 1
        have f2 := rf 2
        have f3 := rf 3
        have f4 := rf 4
        clear rf
        go_wp2_with fail
        have hrow := set5_heap (j := 0) (.int .i64 5) (.int .i64 0) (.slice none 0 0) (.slice pK m cK) (.slice pL m cL) HRz.out
        have hfin := row5 hrow
        simp only [set5, Nat.zero_add] at hfin
        obtain ⟨q0, q1, q2', q3', q4', _⟩ := hfin
        refine bodyPost_ret (v := .agg #[.int .i64 5, .int .i64 0, .slice none 0 0, (.slice pK m cK), (.slice pL m cL)]) (by simp [results, Tryz.results35, go_sem, q0, q1, q2', q3', q4']) rfl ?_
        exact set_end HI.out (by omega) hsz HB1.out HR1.out HBw.out HRz.out HkR.out
end Go.Proofs.YteafpgaefphkfaaGreatDoor
