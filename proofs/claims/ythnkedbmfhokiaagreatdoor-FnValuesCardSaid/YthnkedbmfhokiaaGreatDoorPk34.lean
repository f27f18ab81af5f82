/-
  Texts that a law leans on, one behind the other; no statement is proved here.
-/
import Derived.Test.YthnkedbmfhokiaaGreatDoorPk26
import Derived.Test.YthnkedbmfhokiaaGreatDoorPk10
import Derived.Test.YthnkedbmfhokiaaGreatDoorPk0
import Derived.Deep.RegionLaw
import Derived.Test.YthnkedbmfhokiaaGreatDoorPk33
/-
  Two values that are drawn to be held against each other. No statement is proved here.
-/
namespace Go.Proofs.YthnkedbmfhokiaaGreatDoor
open Go.RowKit
set_option linter.unusedVariables false
set_option linter.unusedSimpArgs false

set_option maxHeartbeats 800000 in
theorem l1New_one (a : Option Addr) (cap : Nat) (xs : List Int) (w : World) (ha : Seg w a xs) (hl : xs.length ≤ maxLen) :
    Calls Tryz.prog 16 #[.slice a xs.length cap] w fun e w' => e = .returned (.pointer (some ⟨w.heap.size, 0, none⟩)) ∧ Cur w' w.heap.size a xs.length cap ∧ Below w.heap.size w w' ∧ w'.heap.size = w.heap.size + 1 := by
  unfold maxLen at hl
  generalize hn : xs.length = n at *
  have Hn : Hid (xs.length = n) := hn
  clear hn
  go_enter Tryz.func16, Tryz.ntmps16
  go_wp2
  go_loopw [3, 4] (fun h i wr => ∃ (k : Nat) (hv : Int), k ≤ n ∧ k ≤ 4000 ∧ i = .int .i64 k ∧ h = .int .i64 hv ∧ wr = w) (fun _ i _ => n - (intOf i).toNat)
  case atStart => exact ⟨0, _, Nat.zero_le _, Nat.zero_le _, rfl, rfl, rfl⟩
  case round =>
    obtain ⟨k, hv, hk, hk4, rfl, rfl, rfl⟩ := hrel
    by_cases hlt : k < n ∧ k < 4000
    · obtain ⟨hlt1, hlt2⟩ := hlt
      have hlt1' : (k : Int) < (n : Int) := by omega
      have hlt2' : (k : Int) < 4000 := by omega
      obtain ⟨b, off, rfl, hc⟩ := ha.at (k := k) (by have := Hn.out; omega)
      generalize xs.getD k 0 = c at hc
      go_wp2
      go_roundw
      case rel => exact ⟨k + 1, _, by omega, by omega, by go_num, by first | exact ⟨rfl, rfl⟩ | exact ⟨rfl, trivial⟩⟩
      case measure => simp [intOf]; omega
    · by_cases h1 : (k : Int) < (n : Int)
      · have h2 : ¬ (k : Int) < 4000 := by omega
        clear hlt
        go_wp2
        go_ret
        exact ⟨rfl, ⟨0, hv, heap_alloc_new _ _, Nat.zero_le _⟩, (Below.refl _ _).alloc (Nat.le_refl _) _, by simp⟩
      · clear hlt
        go_wp2
        go_ret
        exact ⟨rfl, ⟨0, hv, heap_alloc_new _ _, Nat.zero_le _⟩, (Below.refl _ _).alloc (Nat.le_refl _) _, by simp⟩

/-- A cursor is made: nothing else lies from there on. -/
theorem l1New_hs (M : Nat) (a : Option Addr) (cap : Nat) (xs : List Int) (w : World) (ha : Seg w a xs) (hl : xs.length ≤ maxLen) :
    Calls Tryz.prog 16 #[.slice a xs.length cap] w fun e w' => e = .returned (.pointer (some ⟨w.heap.size, 0, none⟩)) ∧ Hs w.heap.size M (fun _ => 0) w' w.heap.size a cap xs ∧ Below w.heap.size w w' := by
  refine (l1New_one a cap xs w ha hl).mono ?_
  rintro e w' ⟨rfl, hc, hb, hz⟩
  refine ⟨rfl, ⟨fun g hg cur T fr hh => ?_, ⟨ha.grow hb, hl, hc, fun x hx he => by have := ha.lt x hx he; omega⟩, Nat.le_refl _, fun x hx he => ha.lt x hx he⟩, hb⟩
  have hl := (Array.getElem?_eq_some_iff.1 hh).1
  obtain rfl : g = w.heap.size := by omega
  have := hc.type hh
  exact ⟨fun h => absurd (.inl h) this, fun h => absurd (.inr (.inl h)) this, fun h => absurd (.inr (.inr h)) this⟩

/-- The answer's box is written, behind a value that was bent. -/
theorem any_end {B M : Nat} {rk rk2 : Nat → Nat} {g R : Nat} {a : Option Addr} {cap : Nat} {cs : List Int} {w w2 : World} {k n : Int} {a2 : Option Addr} {l2 p2 : Nat} {a3 : Option Addr} {l3 p3 : Nat} {a4 : Option Addr} {l4 p4 : Nat} {z0 z1 z2 z3 z4 : Value} (hS : Hs B M rk2 w2 g a cap cs) (hG : Grp B M rk2 11 w2 (.int .i64 k, .int .i64 n, .slice a2 l2 p2, .slice a3 l3 p3, .slice a4 l4 p4)) (hb : Below B w w2) (hk : Rks (rkS rk) rk2 w.heap.size) (hs : Shp w w2) (hBR : B ≤ R) (hR : w2.heap[R]? = some (.cells #[z0, z1, z2, z3, z4] 26 (0, 0))) (hkR : 11 ≤ rk2 R) (hM : ∃ m, M = m + 1) :
    ∃ m, M = m + 1 ∧ BentEnd B m rk 3 g a cap cs w (.returned (.agg #[.int .i64 k, .int .i64 n, .slice a2 l2 p2, .slice a3 l3 p3, .slice a4 l4 p4])) (set5 w2 R 0 (.int .i64 k) (.int .i64 n) (.slice a2 l2 p2) (.slice a3 l3 p3) (.slice a4 l4 p4)) := by
  obtain ⟨m, rfl⟩ := hM
  obtain ⟨k1, k2⟩ := hS.1.set5 hR (hG.shp (Shp.refl _) (Rks.refl _ _) hkR)
  have hgR := hS.ne_row hR row3_v
  have hoth : ∀ b, b ≠ R → (set5 w2 R 0 (.int .i64 k) (.int .i64 n) (.slice a2 l2 p2) (.slice a3 l3 p3) (.slice a4 l4 p4)).heap[b]? = w2.heap[b]? := fun b hb => set5_other w2 R 0 _ _ _ _ _ b hb
  have h5 := set5_grown w2 R 0 (.int .i64 k) (.int .i64 n) (.slice a2 l2 p2) (.slice a3 l3 p3) (.slice a4 l4 p4)
  generalize set5 w2 R 0 (.int .i64 k) (.int .i64 n) (.slice a2 l2 p2) (.slice a3 l3 p3) (.slice a4 l4 p4) = wf at *
  refine ⟨m, rfl, k, n, a2, l2, p2, a3, l3, p3, a4, l4, p4, rk2, rfl, hG.shp k2 (Rks.refl _ _) (Nat.le_refl _), hS.on k1 (hoth g (Ne.symm hgR)) (fun b hb => hoth b (by omega)), ⟨h5.os.trans hb.os, h5.tape.trans hb.tape, h5.output.trans hb.output, Nat.le_trans hb.size h5.size, fun b hb' => (hoth b (by omega)).trans (hb.block b hb')⟩, hk, hs.trans k2⟩

set_option maxHeartbeats 1600000 in
theorem l2any_hs (B M : Nat) (rk : Nat → Nat) (g : Nat) (a : Option Addr) (cap : Nat) (cs : List Int) (w : World) (h : Hs B M rk w g a cap cs) (hM1 : 64 ≤ M) (hM2 : M ≤ 100000) :
    Calls Tryz.prog 15 #[.pointer (some ⟨g, 0, none⟩)] w (BentEnd B M rk 3 g a cap cs w) := by
  have hgl := h.lt
  have hB := h.base
  have hBg := h.2.2.1
  have hH0 := h.1.alloc_v 20 (.int .i64 0) (.int .i64 0) (.slice none 0 0) (.slice none 0 0) (.slice none 0 0) (grp_leaf _ _ _ _ _ _ _)
  have hb0 : Below w.heap.size w (w.alloc (.cells #[.int .i64 0, .int .i64 0, .slice none 0 0, .slice none 0 0, .slice none 0 0] 26)) := (Below.refl _ _).alloc (Nat.le_refl _) _
  have hS0 := h.below hH0 hb0
  have hT0 : Stp rk w (rkUp rk w.heap.size 20) _ g := Stp.below hb0 (rkUp_old _ _ _)
  have hkR : rkUp rk w.heap.size 20 w.heap.size = 20 := rkUp_at _ _ _
  have hRx : Bx5 (w.alloc (.cells #[.int .i64 0, .int .i64 0, .slice none 0 0, .slice none 0 0, .slice none 0 0] 26)) w.heap.size := ⟨_, heap_alloc_new w _, rfl⟩
  generalize rkUp rk w.heap.size 20 = rk0 at *
  have H1 := hide' (l2draw_hs 3 B M rk0 g a cap cs 3 _ hS0 (by omega) (by omega) (by omega) hM1 (by omega))
  have HT0 := hide' hT0
  have HRx := hide' hRx
  clear h hH0 hb0 hS0 hT0 hRx
  go_enter Tryz.func15, Tryz.ntmps15
  go_wp2_with fail
  refine H1.out.mono ?_
  rintro e w1 ⟨k, n, a2, l2, p2, a3, l3, p3, a4, l4, p4, rk1, rfl, hG, hS, hT⟩
  have H2 := hide' (l2bent_hs B M 3 rk1 g a cap cs k n a2 l2 p2 a3 l3 p3 a4 l4 p4 w1 hS hG hM1 hM2)
  have HT := hide' (HT0.out.trans hT)
  have HR1 := hide' (HRx.out.shp hT.2.2)
  have hz1 : w.heap.size < w1.heap.size := by have := hT.2.1.size; simp at this; omega
  have HkR : Hid (rk1 w.heap.size = 20) := hide' ((hT.1 _ (by simp)).trans hkR)
  clear hG hS hT H1 HRx HT0 hkR
  go_wp2_with fail
  refine H2.out.mono ?_
  rintro e w2 ⟨k', n', b2, m2, q2, b3, m3, q3, b4, m4, q4, rk2, rfl, hG2, hS2, hB2, hR2, hSh2⟩
  have hb1 : Below B w w1 := ⟨HT.out.2.1.os, HT.out.2.1.tape, HT.out.2.1.output, HT.out.2.1.size, fun b hb => HT.out.2.1.block b (by omega) (by simp; omega)⟩
  have hR2x := HR1.out.shp hSh2
  obtain ⟨zk, zn, u2, t2, o2, u3, t3, o3, u4, t4, o4, hRz, _⟩ := hR2x.form hS2.1 hB
  have hkk : 11 ≤ rk2 w.heap.size := by
    have e1 : rk2 w.heap.size = rk1 w.heap.size + 1 := hR2 _ hz1
    have e2 := HkR.out
    omega
  obtain ⟨m, hm, hE⟩ := any_end hS2 hG2 (hb1.trans hB2) (rk := rk) (fun b hb => by rw [hR2 b (by omega)]; show rk1 b + 1 = rk b + 1; rw [HT.out.1 b hb]) (HT.out.2.2.trans hSh2) hB hRz hkk ⟨M, rfl⟩
  obtain rfl : M = m := by omega
  have HE := hide' hE
  have HRz := hide' hRz
  obtain ⟨r0, r1, r2, r3, r4, rf⟩ := row5 hRz
  have f0 := rf 0
  have f1 := rf 1
  have f2 := rf 2
  have f3 := rf 3
  have f4 := rf 4
  clear rf hRz hG2 hS2 hB2 hR2 hSh2 hb1 H2 HT hE hR2x hm hkk HR1 HkR
  go_wp2_with fail
  have hfin := row5 (set5_heap (j := 0) (.int .i64 k') (.int .i64 n') (.slice b2 m2 q2) (.slice b3 m3 q3) (.slice b4 m4 q4) HRz.out)
  simp only [set5, Nat.zero_add] at hfin
  obtain ⟨o0, o1, o2', o3', o4', _⟩ := hfin
  refine bodyPost_ret (v := .agg #[.int .i64 k', .int .i64 n', .slice b2 m2 q2, .slice b3 m3 q3, .slice b4 m4 q4]) (by simp [results, Tryz.results15, go_sem, o0, o1, o2', o3', o4']) rfl ?_
  exact HE.out

end Go.Proofs.YthnkedbmfhokiaaGreatDoor
/-
  Two values that are drawn to be held against each other. No statement is proved here.
-/
namespace Go.Proofs.YthnkedbmfhokiaaGreatDoor
open Go.RowKit
set_option linter.unusedVariables false
set_option linter.unusedSimpArgs false

/-- Five cells can be read, all in blocks from B on. -/
def RdF (B : Nat) (w : World) (c : Value × Value × Value × Value × Value) : Prop := ∃ D, ∃ v : Vl D, VSeg (From B w) w D c v
/-- Five cells can be read. -/
def Rd (w : World) (c : Value × Value × Value × Value × Value) : Prop := ∃ D, ∃ v : Vl D, VSeg (fun b => b < w.heap.size) w D c v

theorem RdF.on {B : Nat} {w w' : World} {c : Value × Value × Value × Value × Value} (h : RdF B w c) (ha : ∀ b, B ≤ b → b < w.heap.size → w'.heap[b]? = w.heap[b]?) (hz : w.heap.size ≤ w'.heap.size) : RdF B w' c := by
  obtain ⟨D, v, hv⟩ := h
  exact ⟨D, v, VSeg.mono (fun b hb => ⟨hb.1, Nat.lt_of_lt_of_le hb.2 hz⟩) D (VSeg.agree (fun b hb => ha b hb.1 hb.2) D hv)⟩
theorem RdF.rd {B : Nat} {w : World} {c : Value × Value × Value × Value × Value} (h : RdF B w c) : Rd w c := by
  obtain ⟨D, v, hv⟩ := h
  exact ⟨D, v, VSeg.mono (fun b hb => hb.2) D hv⟩
theorem Rd.on {w w' : World} {c : Value × Value × Value × Value × Value} (h : Rd w c) (hb : Below w.heap.size w w') : Rd w' c := by
  obtain ⟨D, v, hv⟩ := h
  have hz := hb.size
  exact ⟨D, v, VSeg.mono (fun b hb => by omega) D (VSeg.agree (agree_below hb) D hv)⟩
theorem Hs.rd {B M M' r : Nat} {rk : Nat → Nat} {w : World} {g : Nat} {a : Option Addr} {cap : Nat} {cs : List Int} {c : Value × Value × Value × Value × Value} (h : Hs B M rk w g a cap cs) (hG : Grp B M' rk r w c) (hM : M ≤ M') : RdF B w c := by
  obtain ⟨v, hv⟩ := h.1.val hM r c hG
  exact ⟨_, v, hv⟩

theorem set5_row {w : World} {g : Nat} {z0 z1 z2 z3 z4 : Value} (c0 c1 c2 c3 c4 : Value) (h : w.heap[g]? = some (.cells #[z0, z1, z2, z3, z4] 26 (0, 0))) : (set5 w g 0 c0 c1 c2 c3 c4).heap[g]? = some (.cells #[c0, c1, c2, c3, c4] 26 (0, 0)) := by
  have e := set5_heap (j := 0) c0 c1 c2 c3 c4 h
  rw [show arrSet5 #[z0, z1, z2, z3, z4] 0 c0 c1 c2 c3 c4 = #[c0, c1, c2, c3, c4] from rfl] at e
  exact e
section
variable {w wz : World} {ak an : Int} {a2 : Option Addr} {l2 p2 : Nat} {a3 : Option Addr} {l3 p3 : Nat} {a4 : Option Addr} {l4 p4 : Nat} {bk bn : Int} {b2 : Option Addr} {m2 q2 : Nat} {b3 : Option Addr} {m3 q3 : Nat} {b4 : Option Addr} {m4 q4 : Nat} {z0 z1 z2 z3 z4 y0 y1 y2 y3 y4 : Value} {R1 R2 : Nat}
theorem set5_same (w : World) (g j : Nat) (c0 c1 c2 c3 c4 : Value) : (set5 w g j c0 c1 c2 c3 c4).os = w.os ∧ (set5 w g j c0 c1 c2 c3 c4).tape = w.tape ∧ (set5 w g j c0 c1 c2 c3 c4).output = w.output ∧ (set5 w g j c0 c1 c2 c3 c4).heap.size = w.heap.size := ⟨(set5_grown w g j c0 c1 c2 c3 c4).os, (set5_grown w g j c0 c1 c2 c3 c4).tape, (set5_grown w g j c0 c1 c2 c3 c4).output, set5_size w g j c0 c1 c2 c3 c4⟩
end

theorem Below.on2 {N : Nat} {w w1 w2 : World} (h : Below N w w1) (k : Below w1.heap.size w1 w2) (hN : N ≤ w1.heap.size := by first | exact h.size | omega) : Below N w w2 := h.trans (k.mono hN)

end Go.Proofs.YthnkedbmfhokiaaGreatDoor
/-
  What the law FnOrder hands its draws and verdicts through: more, num, sameBytes, same. No statement is proved here.
-/
namespace Go.Proofs.YthnkedbmfhokiaaGreatDoor
open Go.RowKit
set_option linter.unusedVariables false
set_option linter.unusedSimpArgs false

set_option maxHeartbeats 400000 in
theorem sameBy_any (a b : Option Addr) (c1 c2 : Nat) (xs ys : List Int) (w : World) (ha : Seg w a xs) (hb : Seg w b ys) :
    Calls Tryz.prog 14 #[.slice a xs.length c1, .slice b ys.length c2] w fun e w' => e = .returned (.bool (decide (xs = ys))) ∧ w = w' := by
  have h1 := conv_seg c1 ha
  have h2 := conv_seg c2 hb
  have HE := hide' (strOf_eq ha.1 hb.1)
  generalize xs.length = n at *
  generalize ys.length = m at *
  go_enter Tryz.func14, Tryz.ntmps14
  go_wp2
  go_ret
  exact ⟨ret_bool HE.out, rfl⟩

/-- Both may be, and have the same bytes. -/
def sameV (d : Nat) (a b : Vl d) : Bool := okB d a && okB d b && decide (valBytes d a = valBytes d b)

set_option maxHeartbeats 800000 in
theorem same_any (d N : Nat) (c0 c1 c2 c3 c4 e0 e1 e2 e3 e4 : Value) (a b : Vl d) (w : World) (ha : VSeg (fun b => b < N) w d (c0, c1, c2, c3, c4) a) (hb : VSeg (fun b => b < N) w d (e0, e1, e2, e3, e4) b) (hN : N ≤ w.heap.size) :
    Calls Tryz.prog 10 #[.agg #[c0, c1, c2, c3, c4], .agg #[e0, e1, e2, e3, e4]] w fun e w' => e = .returned (.bool (sameV d a b)) ∧ Below w.heap.size w w' := by
  have Hb2 : Hid (∀ o o' : Obj, Below w.heap.size w ((w.alloc o).alloc o')) := fun o o' => ((Below.refl _ _).alloc (Nat.le_refl _) o).alloc (by simp) o'
  have Hr : Hid (∀ (o o' : Obj) (wx : World), Below ((w.alloc o).alloc o').heap.size ((w.alloc o).alloc o') wx → wx.heap[w.heap.size]? = some o ∧ wx.heap[w.heap.size + 1]? = some o') := fun o o' wx h => rows2 h
  have H1 : Hid (∀ wx, Below w.heap.size w wx → Calls Tryz.prog 24 #[.agg #[c0, c1, c2, c3, c4]] wx (ByEnd d a wx)) := fun wx h =>
    spec_ValBytes_any d N _ _ _ _ _ a wx (VSeg.agree (agree_below (h.mono hN)) d ha) (by have := h.size; omega)
  have H2 : Hid (∀ wx, Below w.heap.size w wx → Calls Tryz.prog 24 #[.agg #[e0, e1, e2, e3, e4]] wx (ByEnd d b wx)) := fun wx h =>
    spec_ValBytes_any d N _ _ _ _ _ b wx (VSeg.agree (agree_below (h.mono hN)) d hb) (by have := h.size; omega)
  clear ha hb
  go_enter Tryz.func10, Tryz.ntmps10
  go_wp2_with fail
  have HB0 := hide' (Hb2.out (.cells #[c0, c1, c2, c3, c4] 26) (.cells #[e0, e1, e2, e3, e4] 26))
  have HR0 := hide' (Hr.out (.cells #[c0, c1, c2, c3, c4] 26) (.cells #[e0, e1, e2, e3, e4] 26))
  refine (H1.out _ (by exact HB0.out)).mono ?_
  rintro e w1 ⟨p1, n1, q1, rfl, hB1, hb1⟩
  have HB1 := hide' (HB0.out.trans (hb1.mono (by simp <;> omega)))
  obtain ⟨hx, hy⟩ := HR0.out w1 hb1
  obtain ⟨o0, o1, o2, o3, o4, _⟩ := row5 hy
  have HS1 := hide' (Bts.seg hB1)
  have HN1 : Hid (n1 = (valBytes d a).length) := hide' (by obtain ⟨_, _, he, _⟩ := hB1.shape; simp at he; exact he.2.1)
  clear hb1 hB1 HB0 HR0 hx hy
  generalize hka : okB d a = ka at *
  go_wp2_with fail
  refine (H2.out _ (by exact HB1.out)).mono ?_
  rintro e w2 ⟨p2, n2, q2, rfl, hB2, hb2⟩
  have HB2 := hide' (Below.on2 HB1.out hb2 HB1.out.size)
  have HS2 := hide' (Bts.seg hB2)
  have HN2 : Hid (n2 = (valBytes d b).length) := hide' (by obtain ⟨_, _, he, _⟩ := hB2.shape; simp at he; exact he.2.1)
  have HC := hide' (sameBy_any p1 p2 q1 q2 (valBytes d a) (valBytes d b) w2 (HS1.out.grow hb2) HS2.out)
  have HT1 : Hid (okB d a = ka) := hide' hka
  generalize hkb : okB d b = kb at *
  have HT2 : Hid (okB d b = kb) := hide' hkb
  rw [← HN1.out, ← HN2.out] at HC
  clear hb2 hB2 HB1 HS1 HS2 HN1 HN2 hka hkb H1 H2 Hb2 Hr
  cases ka
  · go_wp2_with fail
    go_ret
    exact ⟨ret_bool (by simp [sameV, HT1.out]), HB2.out⟩
  · cases kb
    · go_wp2_with fail
      go_ret
      exact ⟨ret_bool (by simp [sameV, HT2.out]), HB2.out⟩
    · go_wp2_with fail
      refine HC.out.mono ?_
      rintro e w3 ⟨rfl, rfl⟩
      generalize hdb : decide (valBytes d a = valBytes d b) = bo at *
      have HD := hide' hdb
      clear hdb
      go_wp2_with fail
      go_ret
      exact ⟨ret_bool (by have := HD.out; have h1 := HT1.out; have h2 := HT2.out; simp [sameV, h1, h2, this]), HB2.out⟩
end Go.Proofs.YthnkedbmfhokiaaGreatDoor
