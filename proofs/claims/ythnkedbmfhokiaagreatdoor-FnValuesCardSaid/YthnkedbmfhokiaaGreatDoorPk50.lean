/-
  Texts that a law leans on, one behind the other; no statement is proved here.
-/
import Derived.Test.YthnkedbmfhokiaaGreatDoorPk49
import Derived.Test.YthnkedbmfhokiaaGreatDoorPk34
/-
  l2draw of the specification, with parts, draws good values. No statement is proved here.
-/
namespace Go.Proofs.YthnkedbmfhokiaaGreatDoor
open Go.RowKit
set_option linter.unusedVariables false
set_option linter.unusedSimpArgs false

/-- What a drawn name leaves. -/
def NmEnd (g : Nat) (a : Option Addr) (cap : Nat) (cs : List Int) (w : World) (e : Ending) (w' : World) : Prop :=
  ∃ (nk : Option Addr) (nl nc : Nat) (ts : List Int), e = .returned (.slice nk nl nc) ∧ nl = ts.length ∧ TSeg (fun b => w.heap.size ≤ b ∧ b < w'.heap.size) w' (.slice nk nl nc) ts ∧ nameB ts = true ∧ Drw w' g a cap cs ∧ w.grownBy w' (some g)
theorem nm_from {g : Nat} {a : Option Addr} {cap : Nat} {cs : List Int} {w wy w' : World} {e : Ending} (h : DtxEnd (fun xs => nameB xs = true) g a cap cs wy e w') (e0 : wy.heap = w.heap) (e1 : wy.os = w.os) (e2 : wy.tape = w.tape) (e3 : wy.output = w.output) : NmEnd g a cap cs w e w' := by
  obtain ⟨v, xs, he, ⟨ad, cp, rfl, hs, h1, h2, h3, h4⟩, hn, hd, hg⟩ := h
  refine ⟨ad, xs.length, cp, xs, he, rfl, ⟨ad, cp, rfl, hs, h1, h2, h3, fun x hx hne => ⟨by rw [← e0]; exact h4 x hx, hs.lt x hx hne⟩⟩, hn, hd, ⟨hg.os.trans e1, hg.tape.trans e2, hg.output.trans e3, by rw [← e0]; exact hg.size, fun b hb' hne => by rw [← e0]; exact hg.block b (by rw [e0]; exact hb') hne⟩⟩
theorem tseg_on {w w' : World} {x g : Nat} {v : Value} {ts : List Int} (h : TSeg (fun b => x ≤ b ∧ b < w.heap.size) w v ts) (hg : w.grownBy w' (some g)) (hx : g < x) : TSeg (fun b => x ≤ b ∧ b < w.heap.size) w' v ts := h.agree fun b hb => hg.block b hb.2 (by simp; omega)

/-- While a map is drawn: its box O holds k names at most, all else in blocks from w1's end on. -/
def MDx (n g : Nat) (a : Option Addr) (cap : Nat) (cs : List Int) (w1 : World) (O k : Nat) (wr : World) (vk vn : Int) (a2 : Option Addr) (l2 p2 : Nat) (a3 : Option Addr) (l3 p3 : Nat) (a4 : Option Addr) (l4 p4 : Nat) : Prop :=
  (wr.os = w1.os ∧ wr.tape = w1.tape ∧ wr.output = w1.output ∧ w1.heap.size ≤ wr.heap.size ∧ ∀ b, b < w1.heap.size → b ≠ O → b ≠ g → wr.heap[b]? = w1.heap[b]?) ∧
  wr.heap[O]? = some (.cells #[.int .i64 vk, .int .i64 vn, .slice a2 l2 p2, .slice a3 l3 p3, .slice a4 l4 p4] 26 (0, 0)) ∧
  (∃ v : Vl (n + 1 + 1), VSeg (fun b => w1.heap.size ≤ b ∧ b < wr.heap.size) wr (n + 1 + 1) (.int .i64 vk, .int .i64 vn, .slice a2 l2 p2, .slice a3 l3 p3, .slice a4 l4 p4) v ∧ MapG n k v) ∧ vk = 5 ∧ Drw wr g a cap cs ∧ g < O ∧ O < w1.heap.size ∧ ∀ x, a = some x → cs ≠ [] → x.block < O

section
variable {n g : Nat} {a : Option Addr} {cap : Nat} {cs : List Int} {w1 wr w5 : World} {O k : Nat} {vk vn : Int} {a2 : Option Addr} {l2 p2 : Nat} {a3 : Option Addr} {l3 p3 : Nat} {a4 : Option Addr} {l4 p4 : Nat}
theorem MDx.on (h : MDx n g a cap cs w1 O k wr vk vn a2 l2 p2 a3 l3 p3 a4 l4 p4) (hg : wr.grownBy w5 (some g)) (hd : Drw w5 g a cap cs) : MDx n g a cap cs w1 O k w5 vk vn a2 l2 p2 a3 l3 p3 a4 l4 p4 := by
  obtain ⟨⟨f1, f2, f3, f4, f5⟩, h2, ⟨v, hv, hG⟩, h4, h5, h6, h7, h8⟩ := h
  have hz := hg.size
  exact ⟨⟨hg.os.trans f1, hg.tape.trans f2, hg.output.trans f3, by omega, fun b hb hB hne => (hg.block b (by omega) (by simpa using hne)).trans (f5 b hb hB hne)⟩, (hg.block O (by omega) (by simp; omega)).trans h2, ⟨v, VSeg.mono (fun b hb => by omega) _ (VSeg.agree (R := fun b => w1.heap.size ≤ b ∧ b < wr.heap.size) (fun b hb => hg.block b hb.2 (by simp; omega)) _ hv), hG⟩, h4, hd, h6, h7, h8⟩

theorem mdx_set {xk xn : Int} {b2 : Option Addr} {m2 q2 : Nat} {b3 : Option Addr} {m3 q3 : Nat} {b4 : Option Addr} {m4 q4 : Nat} {nk : Option Addr} {nl nc : Nat} {ts : List Int} {t : Vl (n + 1)} {x0 x1 y0 : Nat} (h : MDx n g a cap cs w1 O k w5 vk vn a2 l2 p2 a3 l3 p3 a4 l4 p4)
    (hT : TSeg (fun b => x0 ≤ b ∧ b < y0) w5 (.slice nk nl nc) ts) (hx : VSeg (fun b => x1 ≤ b ∧ b < w5.heap.size) w5 (n + 1) (.int .i64 xk, .int .i64 xn, .slice b2 m2 q2, .slice b3 m3 q3, .slice b4 m4 q4) t) (hG : GoodD n t) (hn : nameB ts = true) (hl : nl = ts.length) (h0 : w1.heap.size ≤ x0 ∧ y0 ≤ w5.heap.size) (h1 : w1.heap.size ≤ x1) (hk : k ≤ 900)
    (wy : World) (e0 : wy.heap = w5.heap) (e1 : wy.os = w5.os) (e2 : wy.tape = w5.tape) (e3 : wy.output = w5.output) :
    Calls Tryz.prog 53 #[.agg #[.int .i64 vk, .int .i64 vn, .slice a2 l2 p2, .slice a3 l3 p3, .slice a4 l4 p4], .slice nk nl nc, .agg #[.int .i64 xk, .int .i64 xn, .slice b2 m2 q2, .slice b3 m3 q3, .slice b4 m4 q4]] wy fun e w6 => ∃ (yk yn : Int) (e2 : Option Addr) (l2' p2' : Nat) (e3 : Option Addr) (l3' p3' : Nat) (e4 : Option Addr) (l4' p4' : Nat), e = .returned (.agg #[.int .i64 yk, .int .i64 yn, .slice e2 l2' p2', .slice e3 l3' p3', .slice e4 l4' p4']) ∧
      w6.heap[O]? = some (.cells #[.int .i64 vk, .int .i64 vn, .slice a2 l2 p2, .slice a3 l3 p3, .slice a4 l4 p4] 26 (0, 0)) ∧ MDx n g a cap cs w1 O (k + 1) (set5 w6 O 0 (.int .i64 yk) (.int .i64 yn) (.slice e2 l2' p2') (.slice e3 l3' p3') (.slice e4 l4' p4')) yk yn e2 l2' p2' e3 l3' p3' e4 l4' p4' := by
  subst hl
  obtain ⟨⟨f1, f2, f3, f4, f5⟩, hO, ⟨v, hv, hM⟩, hk5, hd, hg1, hg2, hg3⟩ := h
  have hR : Agree (fun b => w1.heap.size ≤ b ∧ b < w5.heap.size) w5 wy := fun b _ => by rw [e0]
  obtain ⟨hKL, hKn, hup, hbt⟩ := hM.2.2.2.1
  refine (l2set_R (fun b => w1.heap.size ≤ b ∧ b < w5.heap.size) (n + 1) vk vn a2 l2 p2 a3 l3 p3 a4 l4 p4 v xk xn b2 m2 q2 b3 m3 q3 b4 m4 q4 t nk nc ts wy (VSeg.agree hR _ hv) ((hT.mono (fun b hb => by omega)).agree hR) (VSeg.agree hR _ (VSeg.mono (fun b hb => by omega) _ hx)) hup (fun i hi => (hbt i hi).1) hKL (by omega) (fun b hb => by rw [e0]; exact hb.2)).mono ?_
  rintro e w6 ⟨u0, u1, u2, u3, u4, rfl, hV, hb6⟩
  obtain ⟨yk, yn, z2, l2', p2', z3, l3', p3', z4, l4', p4', rfl, rfl, rfl, rfl, rfl⟩ := VSeg.form _ hV
  have hz6 : w5.heap.size ≤ w6.heap.size := by have := hb6.size; rw [e0] at this; exact this
  have hblk : ∀ b, b < w5.heap.size → w6.heap[b]? = w5.heap[b]? := fun b hb => by rw [hb6.block b (by rw [e0]; exact hb), e0]
  have hO6 := (hblk O (by omega)).trans hO
  have h5o := fun b (hb : b ≠ O) => set5_other w6 O 0 (.int .i64 yk) (.int .i64 yn) (.slice z2 l2' p2') (.slice z3 l3' p3') (.slice z4 l4' p4') b hb
  have h5r := set5_row (.int .i64 yk) (.int .i64 yn) (.slice z2 l2' p2') (.slice z3 l3' p3') (.slice z4 l4' p4') hO6
  have h5s := set5_same w6 O 0 (.int .i64 yk) (.int .i64 yn) (.slice z2 l2' p2') (.slice z3 l3' p3') (.slice z4 l4' p4')
  have hyk : yk = 5 := by
    have e := ((VSeg_succ _ _ _ _ _).1 hV).1
    simp only [setV, Value.int.injEq, true_and] at e
    exact e
  refine ⟨yk, yn, z2, l2', p2', z3, l3', p3', z4, l4', p4', rfl, hO6, ?_⟩
  generalize set5 w6 O 0 (.int .i64 yk) (.int .i64 yn) (.slice z2 l2' p2') (.slice z3 l3' p3') (.slice z4 l4' p4') = wf at *
  refine ⟨⟨h5s.1.trans (hb6.os.trans (e1.trans f1)), h5s.2.1.trans (hb6.tape.trans (e2.trans f2)), h5s.2.2.1.trans (hb6.output.trans (e3.trans f3)), by omega, fun b hb hB hne => (h5o b hB).trans ((hblk b (by omega)).trans (f5 b hb hB hne))⟩, h5r, ⟨_, VSeg.mono (fun b hb => ?_) _ (VSeg.agree (fun b hb => h5o b ?_) _ hV), hM.set hn hG⟩, hyk, hd.keep ((h5o g (by omega)).trans (hblk g hd.lt)) (fun x hx he => (h5o _ (by have := hg3 x hx he; omega)).trans (hblk _ (by have := hg3 x hx he; omega))), hg1, hg2, hg3⟩
  · rcases hb with hb | hb
    · omega
    · rw [e0] at hb; omega
  · rcases hb with hb | hb
    · omega
    · rw [e0] at hb; omega
end

theorem ldx_n {g : Nat} {a : Option Addr} {cap : Nat} {cs : List Int} {w1 wr : World} {B d : Nat} {L : List (Vl d)} {N : Nat} {xL : Value} {csL : List (List Value)} {BiL : List (List Nat)} (h : LDx g a cap cs w1 B d L N wr xL csL BiL) : LDx g a cap cs w1 B d L wr.heap.size wr xL csL BiL := by
  obtain ⟨h1, h2, h3, h4, h5, h6⟩ := h
  exact ⟨h1, h2, h3, fun b hb => Nat.lt_of_lt_of_le (h4 b hb) h5, Nat.le_refl _, h6⟩
theorem LSeg.mono2 {R R' : Nat → Prop} {w : World} {d : Nat} {x : Value} {l : List (Vl d)} (hr : ∀ b, R b → R' b) (h : LSeg R w d x l) : LSeg R' w d x l := by
  obtain ⟨a, cap, g1, g2, g3, g4, g5⟩ := h
  refine ⟨a, cap, g1, g2, g3, g4, ?_⟩
  rcases g5 with e | ⟨b, off, hb, hR, hc⟩
  · exact .inl e
  · refine .inr ⟨b, off, hb, hr _ hR, fun i hi => ?_⟩
    obtain ⟨e, he, hv⟩ := hc i hi
    exact ⟨e, he, VSeg.mono hr d hv⟩

set_option maxHeartbeats 12800000 in
set_option maxRecDepth 100000 in
theorem l2draw_deep_dx (q : Nat) (ih : DxAt q) (n : Nat) (hn : n = q + 1) (g : Nat) (a : Option Addr) (cap : Nat) (cs : List Int) (deep : Int) (w : World) (h : Drw w g a cap cs) (hdp : 0 < deep) (hdn : deep ≤ q + 1) (hq : q ≤ 999) : Calls Tryz.prog 28 #[.pointer (some ⟨g, 0, none⟩), .int .i64 deep] w (DxEnd n g a cap cs w) := by
  have hgl := h.lt
  have HLt : Hid (∀ x, a = some x → cs ≠ [] → x.block < w.heap.size) := h.1.lt
  have HA : Hid (∀ o : Obj, Below w.heap.size w (w.alloc o) ∧ (w.alloc o).heap[w.heap.size]? = some o) := fun o => ⟨(Below.refl _ _).alloc (Nat.le_refl _) o, heap_alloc_new w o⟩
  have HL : Hid (∀ (n : Int) (wx : World), n ≤ 9223372036854775807 → Drw wx g a cap cs → _) := fun n wx hn hd => l1Below_drw g a cap cs n wx hd hn
  have HD : Hid (∀ o, Drw (w.alloc o) g a cap cs) := fun o => h.grow (HA.out o).1
  clear h
  go_enter Tryz.func28, Tryz.ntmps28
  go_wp2_with fail
  refine (HL.out 9 _ (by omega) (HD.out _)).mono ?_
  rintro e w1 ⟨k, rfl, hk0, hk9, _, hd1, hg1⟩
  have hk9' : k < 9 := hk9 (by omega)
  have HG1 : Hid (w.grownBy w1 (some g)) := hide' (grownBy_trans (World.grownBy_alloc w _ _) hg1)
  have hr1 := (hg1.block w.heap.size (by simp) (by simp; omega)).trans (HA.out _).2
  have hz1 : w.heap.size < w1.heap.size := (Array.getElem?_eq_some_iff.1 hr1).1
  have HR1 := hide' hr1
  have HD1 := hide' hd1
  clear hd1 hg1 hr1 hk9 HD
  have HWr : Hid (IntKind.i64.wrap (deep - 1) = deep - 1) := hide' (by simp only [IntKind.wrap, IntKind.bits, IntKind.signed]; simp; omega)
  have hdp' : ¬ deep ≤ (0 : Int) := by omega
  obtain ⟨i0, hi, hy0, hy1, hy2⟩ := info_parts info_valueT
  obtain rfl | rfl | rfl | rfl | rfl | rfl | rfl | rfl | rfl : k = 0 ∨ k = 1 ∨ k = 2 ∨ k = 3 ∨ k = 4 ∨ k = 5 ∨ k = 6 ∨ k = 7 ∨ k = 8 := by omega
  · obtain ⟨r0, r1, r2, r3, r4, rf⟩ := row5 HR1.out
    have f0 := rf 0
    have f1 := rf 1
    have f2 := rf 2
    have f3 := rf 3
    have f4 := rf 4
    clear rf
    go_wp2_with fail
    have hfin := row5 (set5_heap (j := 0) (.int .i64 0) (.int .i64 0) (.slice none 0 0) (.slice none 0 0) (.slice none 0 0) HR1.out)
    simp only [set5, Nat.zero_add] at hfin
    obtain ⟨x0, x1, x2, x3, x4, _⟩ := hfin
    refine bodyPost_ret (v := .agg #[.int .i64 0, .int .i64 0, .slice none 0 0, .slice none 0 0, .slice none 0 0]) (by simp [results, Tryz.results28, go_sem, x0, x1, x2, x3, x4]) rfl ?_
    exact dx_end HD1.out HG1.out hgl HLt.out hz1 ⟨_, leaf_seg _ _ _ _ _, good_leafD n 0 0 [] rfl⟩
  · have HL1 := hide' (HL.out 2 w1 (by omega) HD1.out)
    go_wp2_with fail
    refine HL1.out.mono ?_
    rintro e w2 ⟨m2, rfl, hn0, hn2, _, hd2, hg2⟩
    have H01 : Hid (m2 = 0 ∨ m2 = 1) := hide' (by have := hn2 (by omega); omega)
    have HD2 := hide' hd2
    have HG2 := hide' (grownBy_trans HG1.out hg2)
    have HR2 := hide' ((hg2.block w.heap.size hz1 (by simp; omega)).trans HR1.out)
    have hz2 := Nat.lt_of_lt_of_le hz1 hg2.size
    clear hd2 hg2 HL1 hn2 hn0
    obtain ⟨r0, r1, r2, r3, r4, rf⟩ := row5 HR2.out
    have f0 := rf 0
    have f1 := rf 1
    have f2 := rf 2
    have f3 := rf 3
    have f4 := rf 4
    clear rf
    go_wp2_with fail
    have hfin := row5 (set5_heap (j := 0) (.int .i64 1) (.int .i64 m2) (.slice none 0 0) (.slice none 0 0) (.slice none 0 0) HR2.out)
    simp only [set5, Nat.zero_add] at hfin
    obtain ⟨x0, x1, x2, x3, x4, _⟩ := hfin
    refine bodyPost_ret (v := .agg #[.int .i64 1, .int .i64 m2, .slice none 0 0, .slice none 0 0, .slice none 0 0]) (by simp [results, Tryz.results28, go_sem, x0, x1, x2, x3, x4]) rfl ?_
    exact dx_end HD2.out HG2.out hgl HLt.out hz2 ⟨_, leaf_seg _ _ _ _ _, good_leafD n 1 m2 [] (by rcases H01.out with rfl | rfl <;> rfl)⟩
  · have HL1 := hide' (HL.out 5000 w1 (by omega) HD1.out)
    go_wp2_with fail
    refine HL1.out.mono ?_
    rintro e w2 ⟨z, rfl, hz0, hzn, _, hd2, hg2⟩
    have hzP : z < 5000 := hzn (by omega)
    have HD2 := hide' hd2
    have HG2 := hide' (grownBy_trans HG1.out hg2)
    have HR2 := hide' ((hg2.block w.heap.size hz1 (by simp; omega)).trans HR1.out)
    have hz2 := Nat.lt_of_lt_of_le hz1 hg2.size
    clear hd2 hg2 HL1 hzn
    have HA2 : Hid (∀ o : Obj, Below w2.heap.size w2 (w2.alloc o) ∧ (w2.alloc o).heap[w2.heap.size]? = some o) := fun o => ⟨(Below.refl _ _).alloc (Nat.le_refl _) o, heap_alloc_new w2 o⟩
    have HC : Hid (∀ k, k < 8 → ∃ y : Int, (w2.alloc (.cells #[.int .i64 0, .int .i64 1, .int .i64 (-1), .int .i64 7, .int .i64 42, .int .i64 1000000000000, .int .i64 (-1000000000000), .int .i64 z] 3)).cell? ⟨w2.heap.size, k, none⟩ = some (.int .i64 y) ∧ (-1000000000000 ≤ y ∧ y ≤ 1000000000000)) := by
      intro k hk
      rw [cell_of_row _ w2.heap.size k _ 3 (0, 0) (HA2.out _).2]
      obtain rfl | rfl | rfl | rfl | rfl | rfl | rfl | rfl : k = 0 ∨ k = 1 ∨ k = 2 ∨ k = 3 ∨ k = 4 ∨ k = 5 ∨ k = 6 ∨ k = 7 := by omega
      all_goals exact ⟨_, rfl, by omega⟩
    have hgl2 := HD2.out.lt
    have HPk := hide' (l1PickInt_p (fun y => -1000000000000 ≤ y ∧ y ≤ 1000000000000) g w2.heap.size 8 8 a cap cs _ (HD2.out.grow (HA2.out (.cells #[.int .i64 0, .int .i64 1, .int .i64 (-1), .int .i64 7, .int .i64 42, .int .i64 1000000000000, .int .i64 (-1000000000000), .int .i64 z] 3)).1) (by omega) (by omega) (by omega) (by simp) HC.out)
    clear HC
    go_wp2_with fail
    refine HPk.out.mono ?_
    rintro e w3 ⟨m3, rfl, hP3, hd3, hg3⟩
    have HP3 := hide' hP3
    have HD3 := hide' hd3
    have HG3 := hide' (grownBy_trans HG2.out (grownBy_trans (World.grownBy_alloc w2 _ _) hg3))
    have HR3 := hide' ((hg3.block w.heap.size (by simp; omega) (by simp; omega)).trans (((HA2.out _).1.block w.heap.size (by omega)).trans HR2.out))
    have hz3 : w.heap.size < w3.heap.size := (Array.getElem?_eq_some_iff.1 HR3.out).1
    clear hd3 hg3 HPk hP3
    obtain ⟨r0, r1, r2, r3, r4, rf⟩ := row5 HR3.out
    have f0 := rf 0
    have f1 := rf 1
    have f2 := rf 2
    have f3 := rf 3
    have f4 := rf 4
    clear rf
    go_wp2_with fail
    have hfin := row5 (set5_heap (j := 0) (.int .i64 2) (.int .i64 m3) (.slice none 0 0) (.slice none 0 0) (.slice none 0 0) HR3.out)
    simp only [set5, Nat.zero_add] at hfin
    obtain ⟨x0, x1, x2, x3, x4, _⟩ := hfin
    refine bodyPost_ret (v := .agg #[.int .i64 2, .int .i64 m3, .slice none 0 0, .slice none 0 0, .slice none 0 0]) (by simp [results, Tryz.results28, go_sem, x0, x1, x2, x3, x4]) rfl ?_
    exact dx_end HD3.out HG3.out hgl HLt.out hz3 ⟨_, leaf_seg _ _ _ _ _, good_leafD n 2 m3 [] (intB_of HP3.out)⟩
  · have HL1 := hide' (HL.out 5000 w1 (by omega) HD1.out)
    go_wp2_with fail
    refine HL1.out.mono ?_
    rintro e w2 ⟨z, rfl, hz0, hzn, _, hd2, hg2⟩
    have hzP : z < 5000 := hzn (by omega)
    have HD2 := hide' hd2
    have HG2 := hide' (grownBy_trans HG1.out hg2)
    have HR2 := hide' ((hg2.block w.heap.size hz1 (by simp; omega)).trans HR1.out)
    have hz2 := Nat.lt_of_lt_of_le hz1 hg2.size
    clear hd2 hg2 HL1 hzn
    have HA2 : Hid (∀ o : Obj, Below w2.heap.size w2 (w2.alloc o) ∧ (w2.alloc o).heap[w2.heap.size]? = some o) := fun o => ⟨(Below.refl _ _).alloc (Nat.le_refl _) o, heap_alloc_new w2 o⟩
    have HC : Hid (∀ k, k < 8 → ∃ y : Int, (w2.alloc (.cells #[.int .i64 0, .int .i64 1, .int .i64 (-1), .int .i64 7, .int .i64 42, .int .i64 1000000000000, .int .i64 (-1000000000000), .int .i64 z] 3)).cell? ⟨w2.heap.size, k, none⟩ = some (.int .i64 y) ∧ (-1000000000000 ≤ y ∧ y ≤ 1000000000000)) := by
      intro k hk
      rw [cell_of_row _ w2.heap.size k _ 3 (0, 0) (HA2.out _).2]
      obtain rfl | rfl | rfl | rfl | rfl | rfl | rfl | rfl : k = 0 ∨ k = 1 ∨ k = 2 ∨ k = 3 ∨ k = 4 ∨ k = 5 ∨ k = 6 ∨ k = 7 := by omega
      all_goals exact ⟨_, rfl, by omega⟩
    have hgl2 := HD2.out.lt
    have HPk := hide' (l1PickInt_p (fun y => -1000000000000 ≤ y ∧ y ≤ 1000000000000) g w2.heap.size 8 8 a cap cs _ (HD2.out.grow (HA2.out (.cells #[.int .i64 0, .int .i64 1, .int .i64 (-1), .int .i64 7, .int .i64 42, .int .i64 1000000000000, .int .i64 (-1000000000000), .int .i64 z] 3)).1) (by omega) (by omega) (by omega) (by simp) HC.out)
    clear HC
    go_wp2_with fail
    refine HPk.out.mono ?_
    rintro e w3 ⟨m3, rfl, hP3, hd3, hg3⟩
    have HP3 := hide' hP3
    have HD3 := hide' hd3
    have HG3 := hide' (grownBy_trans HG2.out (grownBy_trans (World.grownBy_alloc w2 _ _) hg3))
    have HR3 := hide' ((hg3.block w.heap.size (by simp; omega) (by simp; omega)).trans (((HA2.out _).1.block w.heap.size (by omega)).trans HR2.out))
    have hz3 : w.heap.size < w3.heap.size := (Array.getElem?_eq_some_iff.1 HR3.out).1
    clear hd3 hg3 HPk hP3
    obtain ⟨r0, r1, r2, r3, r4, rf⟩ := row5 HR3.out
    have f0 := rf 0
    have f1 := rf 1
    have f2 := rf 2
    have f3 := rf 3
    have f4 := rf 4
    clear rf
    go_wp2_with fail
    have hfin := row5 (set5_heap (j := 0) (.int .i64 2) (.int .i64 m3) (.slice none 0 0) (.slice none 0 0) (.slice none 0 0) HR3.out)
    simp only [set5, Nat.zero_add] at hfin
    obtain ⟨x0, x1, x2, x3, x4, _⟩ := hfin
    refine bodyPost_ret (v := .agg #[.int .i64 2, .int .i64 m3, .slice none 0 0, .slice none 0 0, .slice none 0 0]) (by simp [results, Tryz.results28, go_sem, x0, x1, x2, x3, x4]) rfl ?_
    exact dx_end HD3.out HG3.out hgl HLt.out hz3 ⟨_, leaf_seg _ _ _ _ _, good_leafD n 2 m3 [] (intB_of HP3.out)⟩
  · have HA1 : Hid (∀ o : Obj, Below w1.heap.size w1 (w1.alloc o) ∧ (w1.alloc o).heap[w1.heap.size]? = some o) := fun o => ⟨(Below.refl _ _).alloc (Nat.le_refl _) o, heap_alloc_new w1 o⟩
    have HLt6 : Hid (∀ cur : Array Value, Calls Tryz.prog 51 #[.pointer (some ⟨g, 0, none⟩), .int .i64 6] (w1.alloc (.cells cur 9)) fun e w' => ∃ x : Int, e = .returned (.int .i64 x) ∧ 0 ≤ x ∧ (0 < (6 : Int) → x < 6) ∧ ((6 : Int) ≤ 0 → x = 0) ∧ Drw w' g a cap cs ∧ (w1.alloc (.cells cur 9)).grownBy w' (some g)) := fun cur => l1Below_drw g a cap cs 6 _ (HD1.out.grow (HA1.out _).1) (by omega)
    have hgl1 := HD1.out.lt
    go_wp2_with fail
    refine (HLt6.out _).mono ?_
    rintro e w2 ⟨x, rfl, hx0, hx6, _, hd2, hg2⟩
    obtain ⟨q6, rfl⟩ : ∃ q6 : Nat, x = q6 := ⟨x.toNat, by omega⟩
    have hq6 : q6 < 6 := by have := hx6 (by omega); omega
    have hblk := (hg2.block w1.heap.size (by simp) (by simp; omega)).trans (HA1.out _).2
    have hRx2 := (hg2.block w.heap.size (by simp; omega) (by simp; omega)).trans (((HA1.out _).1.block w.heap.size (by omega)).trans HR1.out)
    have hcell : w2.cell? ⟨w1.heap.size, q6, none⟩ = some (.string (strOf (texts6.getD q6 []))) := by
      rw [cell_of_row w2 w1.heap.size q6 _ 9 (0, 0) hblk]
      obtain rfl | rfl | rfl | rfl | rfl | rfl : q6 = 0 ∨ q6 = 1 ∨ q6 = 2 ∨ q6 = 3 ∨ q6 = 4 ∨ q6 = 5 := by omega
      all_goals rfl
    obtain ⟨hnl, hnb⟩ := texts6_ok q6 hq6
    have hgood := texts6_good q6 hq6
    obtain ⟨ck, wB, hconv, hT, hBB⟩ := conv_txt (texts6.getD q6 []) hnb (by omega) w2
    have hzw2 : w.heap.size < w2.heap.size := (Array.getElem?_eq_some_iff.1 hRx2).1
    have HDB := hide' (hd2.grow hBB)
    have HGB := hide' (grownBy_trans HG1.out (grownBy_trans (grownBy_trans (World.grownBy_alloc w1 _ _) hg2) ⟨hBB.os, hBB.tape, hBB.output, hBB.size, fun b hb _ => hBB.block b hb⟩))
    have HRB := hide' ((hBB.block w.heap.size hzw2).trans hRx2)
    have hzB := Nat.lt_of_lt_of_le hzw2 hBB.size
    have HTx : Hid (TSeg (fun b => w.heap.size < b ∧ b < wB.heap.size) wB (.slice (some ⟨w2.heap.size, 0, none⟩) (texts6.getD q6 []).length ck) (texts6.getD q6 [])) := hide' (by
      obtain ⟨a', cap', e', hs, h1, h2, h3, h4⟩ := hT
      refine ⟨a', cap', e', hs, h1, h2, h3, fun x hx he => ⟨by have := h4 x hx; omega, hs.lt x hx he⟩⟩)
    have HGd := hide' hgood
    have hq6' : (q6 : Int) < 6 := by omega
    have hq60 : (0 : Int) ≤ (q6 : Int) := by omega
    generalize hts : texts6.getD q6 [] = ts at *
    clear hts
    generalize hnlq : ts.length = nl at HTx hconv
    generalize strOf ts = sx at hcell hconv
    clear hT hBB hd2 hg2 hblk hRx2 HA1 HLt6 hnl hnb hx6 hx0 hgood
    obtain ⟨r0, r1, r2, r3, r4, rf⟩ := row5 HRB.out
    have f0 := rf 0
    have f1 := rf 1
    have f2 := rf 2
    have f3 := rf 3
    have f4 := rf 4
    clear rf
    go_wp2_with fail
    have hfin := row5 (set5_heap (j := 0) (.int .i64 3) (.int .i64 0) (.slice (some ⟨w2.heap.size, 0, none⟩) nl ck) (.slice none 0 0) (.slice none 0 0) HRB.out)
    simp only [set5, Nat.zero_add] at hfin
    obtain ⟨x0, x1, x2, x3, x4, _⟩ := hfin
    refine bodyPost_ret (v := .agg #[.int .i64 3, .int .i64 0, .slice (some ⟨w2.heap.size, 0, none⟩) nl ck, .slice none 0 0, .slice none 0 0]) (by simp [results, Tryz.results28, go_sem, x0, x1, x2, x3, x4]) rfl ?_
    exact dx_end HDB.out HGB.out hgl HLt.out hzB ⟨_, text_seg _ HTx.out, good_leafD n 3 0 ts (by simp [shapeB, bareB, HGd.out])⟩
  · have HA1 : Hid (∀ o : Obj, Below w1.heap.size w1 (w1.alloc o) ∧ (w1.alloc o).heap[w1.heap.size]? = some o) := fun o => ⟨(Below.refl _ _).alloc (Nat.le_refl _) o, heap_alloc_new w1 o⟩
    have HLt6 : Hid (∀ cur : Array Value, Calls Tryz.prog 51 #[.pointer (some ⟨g, 0, none⟩), .int .i64 6] (w1.alloc (.cells cur 9)) fun e w' => ∃ x : Int, e = .returned (.int .i64 x) ∧ 0 ≤ x ∧ (0 < (6 : Int) → x < 6) ∧ ((6 : Int) ≤ 0 → x = 0) ∧ Drw w' g a cap cs ∧ (w1.alloc (.cells cur 9)).grownBy w' (some g)) := fun cur => l1Below_drw g a cap cs 6 _ (HD1.out.grow (HA1.out _).1) (by omega)
    have hgl1 := HD1.out.lt
    go_wp2_with fail
    refine (HLt6.out _).mono ?_
    rintro e w2 ⟨x, rfl, hx0, hx6, _, hd2, hg2⟩
    obtain ⟨q6, rfl⟩ : ∃ q6 : Nat, x = q6 := ⟨x.toNat, by omega⟩
    have hq6 : q6 < 6 := by have := hx6 (by omega); omega
    have hblk := (hg2.block w1.heap.size (by simp) (by simp; omega)).trans (HA1.out _).2
    have hRx2 := (hg2.block w.heap.size (by simp; omega) (by simp; omega)).trans (((HA1.out _).1.block w.heap.size (by omega)).trans HR1.out)
    have hcell : w2.cell? ⟨w1.heap.size, q6, none⟩ = some (.string (strOf (texts6.getD q6 []))) := by
      rw [cell_of_row w2 w1.heap.size q6 _ 9 (0, 0) hblk]
      obtain rfl | rfl | rfl | rfl | rfl | rfl : q6 = 0 ∨ q6 = 1 ∨ q6 = 2 ∨ q6 = 3 ∨ q6 = 4 ∨ q6 = 5 := by omega
      all_goals rfl
    obtain ⟨hnl, hnb⟩ := texts6_ok q6 hq6
    have hgood := texts6_good q6 hq6
    obtain ⟨ck, wB, hconv, hT, hBB⟩ := conv_txt (texts6.getD q6 []) hnb (by omega) w2
    have hzw2 : w.heap.size < w2.heap.size := (Array.getElem?_eq_some_iff.1 hRx2).1
    have HDB := hide' (hd2.grow hBB)
    have HGB := hide' (grownBy_trans HG1.out (grownBy_trans (grownBy_trans (World.grownBy_alloc w1 _ _) hg2) ⟨hBB.os, hBB.tape, hBB.output, hBB.size, fun b hb _ => hBB.block b hb⟩))
    have HRB := hide' ((hBB.block w.heap.size hzw2).trans hRx2)
    have hzB := Nat.lt_of_lt_of_le hzw2 hBB.size
    have HTx : Hid (TSeg (fun b => w.heap.size < b ∧ b < wB.heap.size) wB (.slice (some ⟨w2.heap.size, 0, none⟩) (texts6.getD q6 []).length ck) (texts6.getD q6 [])) := hide' (by
      obtain ⟨a', cap', e', hs, h1, h2, h3, h4⟩ := hT
      refine ⟨a', cap', e', hs, h1, h2, h3, fun x hx he => ⟨by have := h4 x hx; omega, hs.lt x hx he⟩⟩)
    have HGd := hide' hgood
    have hq6' : (q6 : Int) < 6 := by omega
    have hq60 : (0 : Int) ≤ (q6 : Int) := by omega
    generalize hts : texts6.getD q6 [] = ts at *
    clear hts
    generalize hnlq : ts.length = nl at HTx hconv
    generalize strOf ts = sx at hcell hconv
    clear hT hBB hd2 hg2 hblk hRx2 HA1 HLt6 hnl hnb hx6 hx0 hgood
    obtain ⟨r0, r1, r2, r3, r4, rf⟩ := row5 HRB.out
    have f0 := rf 0
    have f1 := rf 1
    have f2 := rf 2
    have f3 := rf 3
    have f4 := rf 4
    clear rf
    go_wp2_with fail
    have hfin := row5 (set5_heap (j := 0) (.int .i64 3) (.int .i64 0) (.slice (some ⟨w2.heap.size, 0, none⟩) nl ck) (.slice none 0 0) (.slice none 0 0) HRB.out)
    simp only [set5, Nat.zero_add] at hfin
    obtain ⟨x0, x1, x2, x3, x4, _⟩ := hfin
    refine bodyPost_ret (v := .agg #[.int .i64 3, .int .i64 0, .slice (some ⟨w2.heap.size, 0, none⟩) nl ck, .slice none 0 0, .slice none 0 0]) (by simp [results, Tryz.results28, go_sem, x0, x1, x2, x3, x4]) rfl ?_
    exact dx_end HDB.out HGB.out hgl HLt.out hzB ⟨_, text_seg _ HTx.out, good_leafD n 3 0 ts (by simp [shapeB, bareB, HGd.out])⟩
  · have HA1 : Hid (∀ o : Obj, Below w1.heap.size w1 (w1.alloc o) ∧ (w1.alloc o).heap[w1.heap.size]? = some o) := fun o => ⟨(Below.refl _ _).alloc (Nat.le_refl _) o, heap_alloc_new w1 o⟩
    have HLO := hide' (l1Below_drw g a cap cs 4 (w1.alloc (.cells #[.int .i64 4, .int .i64 0, .slice none 0 0, .slice none 0 0, .slice none 0 0] 26)) (HD1.out.grow (HA1.out _).1) (by omega))
    have hgl1 := HD1.out.lt
    go_wp2_with fail
    refine HLO.out.mono ?_
    rintro e wl ⟨x, rfl, hx0, hx4, _, hd2, hg2⟩
    obtain ⟨N, rfl⟩ : ∃ N : Nat, x = N := ⟨x.toNat, by omega⟩
    have hN : N ≤ 3 := by have := hx4 (by omega); omega
    have hO2 := (hg2.block w1.heap.size (by simp) (by simp; omega)).trans (HA1.out (.cells #[.int .i64 4, .int .i64 0, .slice none 0 0, .slice none 0 0, .slice none 0 0] 26)).2
    have hR2 := (hg2.block w.heap.size (by simp; omega) (by simp; omega)).trans (((HA1.out (.cells #[.int .i64 4, .int .i64 0, .slice none 0 0, .slice none 0 0, .slice none 0 0] 26)).1.block w.heap.size (by omega)).trans HR1.out)
    have hOl : w1.heap.size < wl.heap.size := (Array.getElem?_eq_some_iff.1 hO2).1
    have HG2 := hide' (grownBy_trans HG1.out (grownBy_trans (World.grownBy_alloc w1 (.cells #[.int .i64 4, .int .i64 0, .slice none 0 0, .slice none 0 0, .slice none 0 0] 26) _) hg2))
    have HR2 := hide' hR2
    have HS0 : Hid (LDx g a cap cs wl w1.heap.size (q + 1) [] wl.heap.size wl (.slice none 0 0) [] []) := hide' ⟨⟨rfl, rfl, rfl, Nat.le_refl _, fun _ _ _ _ => rfl⟩, hO2, RW.nil _ _ _ _ _, by simp [Value.ownBlock], Nat.le_refl _, hd2, by omega, hOl, fun x hx he => by have := HLt.out x hx he; omega⟩
    clear hd2 hg2 hO2 hR2 HLO HA1 HL hx4 hx0 HD1 HG1 HR1
    generalize hOB : w1.heap.size = O at *
    clear hOB
    go_wp2_with fail
    go_loopw [8] (fun i wr => ∃ k : Nat, k ≤ N ∧ i = .int .i64 k ∧ ∃ L pL cL csL BiL, L.length = k ∧ Hid (LDx g a cap cs wl O (q + 1) L wr.heap.size wr (.slice pL L.length cL) csL BiL) ∧ Hid (∀ i (hi : i < L.length), GoodD q L[i])) (fun i _ => N - (intOf i).toNat)
    case atStart => exact ⟨0, Nat.zero_le _, rfl, [], none, 0, [], [], rfl, HS0, hide' (fun i hi => absurd hi (by simp))⟩
    case round =>
      obtain ⟨k, hk, rfl, L, pL, cL, csL, BiL, hLk, HI, HGL⟩ := hrel
      subst hLk
      have HI := hide' HI.out
      have HzI := hide' HI.out.1.2.2.2.1
      obtain ⟨o0, o1, o2, o3, o4, of⟩ := row5 HI.out.2.1
      by_cases hlt : L.length < N
      · have hlt' : (L.length : Int) < (N : Int) := by omega
        have HE : Hid (∀ (dd : Int) (wy : World), dd = deep - 1 → wy.heap = wr.heap → wy.os = wr.os → wy.tape = wr.tape → wy.output = wr.output → Calls Tryz.prog 28 #[.pointer (some ⟨g, 0, none⟩), .int .i64 dd] wy (DxEnd q g a cap cs wr)) := hide' (fun dd wy hdd e0 e1 e2 e3 => (ih g a cap cs dd wy (HI.out.2.2.2.2.2.1.keep (by rw [e0]) (fun x _ _ => by rw [e0])) (by omega) (by omega) (by omega)).mono fun e w' hh => dx_from hh e0 e1 e2 e3)
        go_wp2_with fail
        go_region_law (first | (go_simp; go_at_call 28; refine (HE.out _ _ (by first | rfl | exact HWr.out | omega) (by rfl) (by rfl) (by rfl) (by rfl)).mono ?_; rintro e w5 ⟨uk, un, s2, n2, r2, s3, n3, r3, s4, n4, r4, rfl, ⟨t, hv5, hG5⟩, hd5, hg5⟩; have I5 := hide' (HI.out.on hg5 hd5); obtain ⟨_, _, _, _, t4, _⟩ := row5 I5.out.2.1; obtain ⟨_, _, _, _, t4o, _⟩ := box_later I5.out.2.1; have hv5 := hide' hv5; have hG5 := hide' hG5; have hz5 := hide' (hg5.size); clear hd5 hg5) | (refine step_append_lies _ (by rfl) (.tmp 59) (.tmp 64) 24 (by rfl) wl.heap.size 26 i0 _ 5 88 Tryz.underlying24 hi hy0 hy1 hy2 rfl (by decide) (.slice pL L.length cL) L.length csL.flatten (by rfl) (by first | exact (I5.out.alloc _).2.2.1.2.2.1 | exact ((I5.out.alloc _).same (by rfl) (by rfl) (by rfl) (by rfl)).2.2.1.2.2.1) ⟨w5.heap.size, 0, none⟩ 1 1 [.int .i64 uk, .int .i64 un, .slice s2 n2 r2, .slice s3 n3 r3, .slice s4 n4 r4] (by rfl) (by rfl) (World.news_of_block (cs := #[.int .i64 uk, .int .i64 un, .slice s2 n2 r2, .slice s3 n3 r3, .slice s4 n4 r4]) (t := 26) (fr := (0, 0)) (heap_alloc_new w5 _)) (by simp [Value.oneCell']) (by omega) (by unfold maxLen; omega) (by omega) (by have := hz5.out; have := HzI.out; simp; omega) (w5.heap.size + 1) (by simp) ?_; intro g6 cp6 w6 hown6 hg6 hat6 hlt6; obtain ⟨hV6, hI6⟩ := ldx_l (e5 := (.int .i64 uk, .int .i64 un, .slice s2 n2 r2, .slice s3 n3 r3, .slice s4 n4 r4)) ((I5.out.alloc _).same (by rfl) (by rfl) (by rfl) (by rfl)) (VSeg.agree (fun b hb => Below.heap_alloc w5 _ b (by rw [List.mem_range'_1] at hb; have := hz5.out; omega)) _ (seg_range hv5.out hz5.out)) (fun b hb => by rw [List.mem_range'_1] at hb; have h2 := HzI.out; have h3 := hz5.out; refine ⟨hb.1, by omega, ?_⟩; exact Nat.lt_of_lt_of_le (show b < w5.heap.size by omega) (by simp)) List.nodup_range' hown6 hg6 (by simpa using hat6); obtain ⟨_, _, _, _, hc6, hf6⟩ := row5 hV6; replace hf6 := hf6 4; replace hI6 := hide' hI6; clear hown6 hg6 hat6 hlt6 hV6 t4 t4o) | fail)
        all_goals (clear HI HE o0 o1 o2 o3 o4 of)
        all_goals go_wp2
        all_goals go_roundw
        all_goals first | (simp [intOf]; omega; done) | exact ⟨L.length + 1, by omega, by go_num, L ++ [t], _, _, _, _, by simp, hide' (by simpa using (ldx_n hI6.out)), hide' (fun i hi => by
          by_cases hiL : i < L.length
          · rw [List.getElem_append_left hiL]; exact HGL.out i hiL
          · have : i = L.length := by simp at hi; omega
            subst this
            simpa using hG5.out)⟩
      · have hltn : ¬ (L.length : Int) < (N : Int) := by omega
        have HD3 := hide' HI.out.2.2.2.2.2.1
        have HR3 := hide' ((HI.out.1.2.2.2.2 w.heap.size (by omega) (by omega) (by omega)).trans HR2.out)
        have hz3 : w.heap.size < wr.heap.size := (Array.getElem?_eq_some_iff.1 HR3.out).1
        have HG3 : Hid (w.grownBy wr (some g)) := hide' ⟨HI.out.1.1.trans HG2.out.os, HI.out.1.2.1.trans HG2.out.tape, HI.out.1.2.2.1.trans HG2.out.output, by have := HG2.out.size; have := HzI.out; omega, fun b hb hne => (HI.out.1.2.2.2.2 b (by have := HG2.out.size; omega) (by omega) (by simpa using hne)).trans (HG2.out.block b hb hne)⟩
        have HLs := hide' HI.out.2.2.1.lseg
        have hN3 : L.length ≤ 3 := by omega
        clear of
        obtain ⟨r0, r1, r2, r3, r4, rf⟩ := row5 HR3.out
        have f0 := rf 0
        have f1 := rf 1
        have f2 := rf 2
        have f3 := rf 3
        have f4 := rf 4
        clear rf
        go_wp2_with fail
        have hfin := row5 (set5_heap (j := 0) (.int .i64 4) (.int .i64 0) (.slice none 0 0) (.slice none 0 0) (.slice pL L.length cL) HR3.out)
        simp only [set5, Nat.zero_add] at hfin
        obtain ⟨x0, x1, x2, x3, x4, _⟩ := hfin
        refine bodyPost_ret (v := .agg #[.int .i64 4, .int .i64 0, .slice none 0 0, .slice none 0 0, .slice pL L.length cL]) (by simp [results, Tryz.results28, go_sem, x0, x1, x2, x3, x4]) rfl ?_
        subst hn
        exact dx_end HD3.out HG3.out hgl HLt.out hz3 ⟨(4, 0, [], [], L), (VSeg_succ _ _ _ _ _).2 ⟨rfl, rfl, ⟨none, 0, rfl, ⟨by simp, .inl rfl⟩, by simp, by simp, fun _ => rfl, by simp⟩, ⟨none, 0, rfl, by simp, by simp, fun _ => rfl, .inl rfl⟩, LSeg.mono2 (fun b hb => ⟨by omega, hb.2⟩) HLs.out⟩, good_listD HGL.out hN3⟩
  · have HO1 := hide' (l1Once_drw g a cap cs 3 w1 HD1.out (by omega))
    go_wp2_with fail
    refine HO1.out.mono ?_
    rintro e wo ⟨bo, rfl, hdo, hgo⟩
    have HGo := hide' (grownBy_trans HG1.out hgo)
    have HDo := hide' hdo
    have HRo := hide' ((hgo.block w.heap.size hz1 (by simp; omega)).trans HR1.out)
    have hzo := Nat.lt_of_lt_of_le hz1 hgo.size
    clear hdo hgo HO1 HR1 HG1 HD1
    cases bo
    · have HA1 : Hid (∀ o : Obj, Below wo.heap.size wo (wo.alloc o) ∧ (wo.alloc o).heap[wo.heap.size]? = some o) := fun o => ⟨(Below.refl _ _).alloc (Nat.le_refl _) o, heap_alloc_new wo o⟩
      have HLO := hide' (l1Below_drw g a cap cs 4 (wo.alloc (.cells #[.int .i64 5, .int .i64 0, .slice none 0 0, .slice none 0 0, .slice none 0 0] 26)) (HDo.out.grow (HA1.out _).1) (by omega))
      have hgl1 := HDo.out.lt
      go_wp2_with fail
      refine HLO.out.mono ?_
      rintro e wl ⟨x, rfl, hx0, hx4, _, hd2, hg2⟩
      obtain ⟨N, rfl⟩ : ∃ N : Nat, x = N := ⟨x.toNat, by omega⟩
      have hN : N ≤ 3 := by have := hx4 (by omega); omega
      have hO2 := (hg2.block wo.heap.size (by simp) (by simp; omega)).trans (HA1.out (.cells #[.int .i64 5, .int .i64 0, .slice none 0 0, .slice none 0 0, .slice none 0 0] 26)).2
      have hR2 := (hg2.block w.heap.size (by simp; omega) (by simp; omega)).trans (((HA1.out (.cells #[.int .i64 5, .int .i64 0, .slice none 0 0, .slice none 0 0, .slice none 0 0] 26)).1.block w.heap.size (by omega)).trans HRo.out)
      have hOl : wo.heap.size < wl.heap.size := (Array.getElem?_eq_some_iff.1 hO2).1
      have HG2 := hide' (grownBy_trans HGo.out (grownBy_trans (World.grownBy_alloc wo (.cells #[.int .i64 5, .int .i64 0, .slice none 0 0, .slice none 0 0, .slice none 0 0] 26) _) hg2))
      have HR2 := hide' hR2
      have hOw : w.heap.size < wo.heap.size := hzo
      have HS0 : Hid (MDx q g a cap cs wl wo.heap.size 0 wl 5 0 none 0 0 none 0 0 none 0 0) := hide' ⟨⟨rfl, rfl, rfl, Nat.le_refl _, fun _ _ _ _ => rfl⟩, hO2, ⟨_, leaf_seg _ _ _ _ _, mapG_nil q⟩, rfl, hd2, by omega, hOl, fun x hx he => by have := HLt.out x hx he; omega⟩
      clear hd2 hg2 hO2 hR2 HLO HA1 HL hx4 hx0 HDo HGo HRo
      generalize hOB : wo.heap.size = O at *
      clear hOB
      go_wp2_with fail
      go_loopw [11] (fun i wr => ∃ k : Nat, k ≤ N ∧ i = .int .i64 k ∧ ∃ (vk vn : Int) (a2 : Option Addr) (l2 p2 : Nat) (a3 : Option Addr) (l3 p3 : Nat) (a4 : Option Addr) (l4 p4 : Nat), Hid (MDx q g a cap cs wl O k wr vk vn a2 l2 p2 a3 l3 p3 a4 l4 p4)) (fun i _ => N - (intOf i).toNat)
      case atStart => exact ⟨0, Nat.zero_le _, rfl, 5, 0, none, 0, 0, none, 0, 0, none, 0, 0, HS0⟩
      case round =>
        obtain ⟨k, hk, rfl, vk, vn, a2, l2, p2, a3, l3, p3, a4, l4, p4, HI⟩ := hrel
        have HI := hide' HI.out
        have HzI := hide' HI.out.1.2.2.2.1
        obtain ⟨o0, o1, o2, o3, o4, of⟩ := row5 HI.out.2.1
        by_cases hlt : k < N
        · have hlt' : (k : Int) < (N : Int) := by omega
          have hk40 : k ≤ 900 := by omega
          have HNm : Hid (∀ (wy : World), wy.heap = wr.heap → wy.os = wr.os → wy.tape = wr.tape → wy.output = wr.output → Calls Tryz.prog 54 #[.pointer (some ⟨g, 0, none⟩)] wy (NmEnd g a cap cs wr)) := hide' (fun wy e0 e1 e2 e3 => (l2drawName_drw g a cap cs wy (HI.out.2.2.2.2.1.keep (by rw [e0]) (fun x _ _ => by rw [e0]))).mono fun e w' hh => nm_from hh e0 e1 e2 e3)
          have HE : Hid (∀ (V wy : World) (dd : Int), Drw V g a cap cs → dd = deep - 1 → wy.heap = V.heap → wy.os = V.os → wy.tape = V.tape → wy.output = V.output → Calls Tryz.prog 28 #[.pointer (some ⟨g, 0, none⟩), .int .i64 dd] wy (DxEnd q g a cap cs V)) := hide' (fun V wy dd hV hdd e0 e1 e2 e3 => (ih g a cap cs dd wy (hV.keep (by rw [e0]) (fun x _ _ => by rw [e0])) (by omega) (by omega) (by omega)).mono fun e w' hh => dx_from hh e0 e1 e2 e3)
          unfold NmEnd at HNm
          go_wp2_with fail
          go_region_law (first | (go_simp; go_at_call 54; refine (HNm.out _ (by rfl) (by rfl) (by rfl) (by rfl)).mono ?_; rintro e wN ⟨nk, nl, nc, ts, rfl, hlN, hTN, hNb, hdN, hgN⟩; have HN := hide' (And.intro hlN (And.intro hTN hNb)); have HIN := hide' (HI.out.on hgN hdN); obtain ⟨t0, t1, t2, t3, t4, _⟩ := row5 HIN.out.2.1; have hzN := hide' (hgN.size); clear hlN hTN hNb hdN hgN) | (go_simp; go_at_call 28; refine (HE.out wN _ _ HIN.out.2.2.2.2.1 (by first | rfl | exact HWr.out | omega) (by rfl) (by rfl) (by rfl) (by rfl)).mono ?_; rintro e w5 ⟨xk, xn, b2, m2, q2, b3, m3, q3, b4, m4, q4, rfl, ⟨t, hv5, hG5⟩, hd5, hg5⟩; have HV5 := hide' (And.intro hv5 hG5); have I5 := hide' (HIN.out.on hg5 hd5); obtain ⟨u0, u1, u2, u3, u4, _⟩ := row5 I5.out.2.1; have hz5 := hide' (hg5.size); have HTN := hide' (tseg_on HN.out.2.1 hg5 (by have := HI.out.2.2.2.2.2.1; have := HI.out.2.2.2.2.2.2.1; have := HI.out.1.2.2.2.1; omega)); clear hv5 hG5 hd5 hg5) | (go_simp; go_at_call 53; refine ((mdx_set I5.out HTN.out HV5.out.1 HV5.out.2 HN.out.2.2 HN.out.1 (by have := hzN.out; have := HzI.out; have := hz5.out; omega) (by have := hzN.out; have := HzI.out; omega) hk40 _ (by rfl) (by rfl) (by rfl) (by rfl))).mono ?_; rintro e w6 ⟨yk, yn, e2, l2, p2, e3, l3, p3, e4, l4, p4, rfl, hrow6, hM6⟩; obtain ⟨v0', v1', v2', v3', v4', vf'⟩ := row5 hrow6; have g0 := vf' 0; have g1 := vf' 1; have g2 := vf' 2; have g3 := vf' 3; have g4 := vf' 4; replace hM6 := hide' hM6; clear hrow6 vf') | fail)
          all_goals (clear HI HE HNm o0 o1 o2 o3 o4 of)
          all_goals go_wp2
          all_goals go_roundw
          all_goals first | (simp [intOf]; omega; done) | exact ⟨k + 1, by omega, by go_num, _, _, _, _, _, _, _, _, _, _, _, hM6⟩
        · have hltn : ¬ (k : Int) < (N : Int) := by omega
          have HD3 := hide' HI.out.2.2.2.2.1
          have HR3 := hide' ((HI.out.1.2.2.2.2 w.heap.size (by omega) (by omega) (by omega)).trans HR2.out)
          have hz3 : w.heap.size < wr.heap.size := (Array.getElem?_eq_some_iff.1 HR3.out).1
          have HG3 : Hid (w.grownBy wr (some g)) := hide' ⟨HI.out.1.1.trans HG2.out.os, HI.out.1.2.1.trans HG2.out.tape, HI.out.1.2.2.1.trans HG2.out.output, by have := HG2.out.size; have := HzI.out; omega, fun b hb hne => (HI.out.1.2.2.2.2 b (by have := HG2.out.size; omega) (by omega) (by simpa using hne)).trans (HG2.out.block b hb hne)⟩
          obtain ⟨v, hvS, hvG⟩ := HI.out.2.2.1
          have HVf := hide' (And.intro hvS hvG)
          obtain rfl : vk = 5 := HI.out.2.2.2.1
          have hk3 : k ≤ 3 := by omega
          clear of hvS hvG
          obtain ⟨r0, r1, r2, r3, r4, rf⟩ := row5 HR3.out
          have f0 := rf 0
          have f1 := rf 1
          have f2 := rf 2
          have f3 := rf 3
          have f4 := rf 4
          clear rf
          go_wp2_with fail
          have hfin := row5 (set5_heap (j := 0) (.int .i64 5) (.int .i64 vn) (.slice a2 l2 p2) (.slice a3 l3 p3) (.slice a4 l4 p4) HR3.out)
          simp only [set5, Nat.zero_add] at hfin
          obtain ⟨x0, x1, x2, x3, x4, _⟩ := hfin
          refine bodyPost_ret (v := .agg #[.int .i64 5, .int .i64 vn, .slice a2 l2 p2, .slice a3 l3 p3, .slice a4 l4 p4]) (by simp [results, Tryz.results28, go_sem, x0, x1, x2, x3, x4]) rfl ?_
          subst hn
          exact dx_end HD3.out HG3.out hgl HLt.out hz3 ⟨v, VSeg.mono (fun b hb => ⟨by omega, hb.2⟩) _ HVf.out.1, HVf.out.2.good hk3⟩
    · obtain ⟨r0, r1, r2, r3, r4, rf⟩ := row5 HRo.out
      have f0 := rf 0
      have f1 := rf 1
      have f2 := rf 2
      have f3 := rf 3
      have f4 := rf 4
      clear rf
      go_wp2_with fail
      have hfin := row5 (set5_heap (j := 0) (.int .i64 6) (.int .i64 0) (.slice none 0 0) (.slice none 0 0) (.slice none 0 0) HRo.out)
      simp only [set5, Nat.zero_add] at hfin
      obtain ⟨x0, x1, x2, x3, x4, _⟩ := hfin
      refine bodyPost_ret (v := .agg #[.int .i64 6, .int .i64 0, .slice none 0 0, .slice none 0 0, .slice none 0 0]) (by simp [results, Tryz.results28, go_sem, x0, x1, x2, x3, x4]) rfl ?_
      exact dx_end HDo.out HGo.out hgl HLt.out hzo ⟨_, leaf_seg _ _ _ _ _, good_leafD n 6 0 [] rfl⟩
  · have HA1 : Hid (∀ o : Obj, Below w1.heap.size w1 (w1.alloc o) ∧ (w1.alloc o).heap[w1.heap.size]? = some o) := fun o => ⟨(Below.refl _ _).alloc (Nat.le_refl _) o, heap_alloc_new w1 o⟩
    have HLO := hide' (l1Below_drw g a cap cs 4 (w1.alloc (.cells #[.int .i64 5, .int .i64 0, .slice none 0 0, .slice none 0 0, .slice none 0 0] 26)) (HD1.out.grow (HA1.out _).1) (by omega))
    have hgl1 := HD1.out.lt
    go_wp2_with fail
    refine HLO.out.mono ?_
    rintro e wl ⟨x, rfl, hx0, hx4, _, hd2, hg2⟩
    obtain ⟨N, rfl⟩ : ∃ N : Nat, x = N := ⟨x.toNat, by omega⟩
    have hN : N ≤ 3 := by have := hx4 (by omega); omega
    have hO2 := (hg2.block w1.heap.size (by simp) (by simp; omega)).trans (HA1.out (.cells #[.int .i64 5, .int .i64 0, .slice none 0 0, .slice none 0 0, .slice none 0 0] 26)).2
    have hR2 := (hg2.block w.heap.size (by simp; omega) (by simp; omega)).trans (((HA1.out (.cells #[.int .i64 5, .int .i64 0, .slice none 0 0, .slice none 0 0, .slice none 0 0] 26)).1.block w.heap.size (by omega)).trans HR1.out)
    have hOl : w1.heap.size < wl.heap.size := (Array.getElem?_eq_some_iff.1 hO2).1
    have HG2 := hide' (grownBy_trans HG1.out (grownBy_trans (World.grownBy_alloc w1 (.cells #[.int .i64 5, .int .i64 0, .slice none 0 0, .slice none 0 0, .slice none 0 0] 26) _) hg2))
    have HR2 := hide' hR2
    have hOw : w.heap.size < w1.heap.size := hz1
    have HS0 : Hid (MDx q g a cap cs wl w1.heap.size 0 wl 5 0 none 0 0 none 0 0 none 0 0) := hide' ⟨⟨rfl, rfl, rfl, Nat.le_refl _, fun _ _ _ _ => rfl⟩, hO2, ⟨_, leaf_seg _ _ _ _ _, mapG_nil q⟩, rfl, hd2, by omega, hOl, fun x hx he => by have := HLt.out x hx he; omega⟩
    clear hd2 hg2 hO2 hR2 HLO HA1 HL hx4 hx0 HD1 HG1 HR1
    generalize hOB : w1.heap.size = O at *
    clear hOB
    go_wp2_with fail
    go_loopw [11] (fun i wr => ∃ k : Nat, k ≤ N ∧ i = .int .i64 k ∧ ∃ (vk vn : Int) (a2 : Option Addr) (l2 p2 : Nat) (a3 : Option Addr) (l3 p3 : Nat) (a4 : Option Addr) (l4 p4 : Nat), Hid (MDx q g a cap cs wl O k wr vk vn a2 l2 p2 a3 l3 p3 a4 l4 p4)) (fun i _ => N - (intOf i).toNat)
    case atStart => exact ⟨0, Nat.zero_le _, rfl, 5, 0, none, 0, 0, none, 0, 0, none, 0, 0, HS0⟩
    case round =>
      obtain ⟨k, hk, rfl, vk, vn, a2, l2, p2, a3, l3, p3, a4, l4, p4, HI⟩ := hrel
      have HI := hide' HI.out
      have HzI := hide' HI.out.1.2.2.2.1
      obtain ⟨o0, o1, o2, o3, o4, of⟩ := row5 HI.out.2.1
      by_cases hlt : k < N
      · have hlt' : (k : Int) < (N : Int) := by omega
        have hk40 : k ≤ 900 := by omega
        have HNm : Hid (∀ (wy : World), wy.heap = wr.heap → wy.os = wr.os → wy.tape = wr.tape → wy.output = wr.output → Calls Tryz.prog 54 #[.pointer (some ⟨g, 0, none⟩)] wy (NmEnd g a cap cs wr)) := hide' (fun wy e0 e1 e2 e3 => (l2drawName_drw g a cap cs wy (HI.out.2.2.2.2.1.keep (by rw [e0]) (fun x _ _ => by rw [e0]))).mono fun e w' hh => nm_from hh e0 e1 e2 e3)
        have HE : Hid (∀ (V wy : World) (dd : Int), Drw V g a cap cs → dd = deep - 1 → wy.heap = V.heap → wy.os = V.os → wy.tape = V.tape → wy.output = V.output → Calls Tryz.prog 28 #[.pointer (some ⟨g, 0, none⟩), .int .i64 dd] wy (DxEnd q g a cap cs V)) := hide' (fun V wy dd hV hdd e0 e1 e2 e3 => (ih g a cap cs dd wy (hV.keep (by rw [e0]) (fun x _ _ => by rw [e0])) (by omega) (by omega) (by omega)).mono fun e w' hh => dx_from hh e0 e1 e2 e3)
        unfold NmEnd at HNm
        go_wp2_with fail
        go_region_law (first | (go_simp; go_at_call 54; refine (HNm.out _ (by rfl) (by rfl) (by rfl) (by rfl)).mono ?_; rintro e wN ⟨nk, nl, nc, ts, rfl, hlN, hTN, hNb, hdN, hgN⟩; have HN := hide' (And.intro hlN (And.intro hTN hNb)); have HIN := hide' (HI.out.on hgN hdN); obtain ⟨t0, t1, t2, t3, t4, _⟩ := row5 HIN.out.2.1; have hzN := hide' (hgN.size); clear hlN hTN hNb hdN hgN) | (go_simp; go_at_call 28; refine (HE.out wN _ _ HIN.out.2.2.2.2.1 (by first | rfl | exact HWr.out | omega) (by rfl) (by rfl) (by rfl) (by rfl)).mono ?_; rintro e w5 ⟨xk, xn, b2, m2, q2, b3, m3, q3, b4, m4, q4, rfl, ⟨t, hv5, hG5⟩, hd5, hg5⟩; have HV5 := hide' (And.intro hv5 hG5); have I5 := hide' (HIN.out.on hg5 hd5); obtain ⟨u0, u1, u2, u3, u4, _⟩ := row5 I5.out.2.1; have hz5 := hide' (hg5.size); have HTN := hide' (tseg_on HN.out.2.1 hg5 (by have := HI.out.2.2.2.2.2.1; have := HI.out.2.2.2.2.2.2.1; have := HI.out.1.2.2.2.1; omega)); clear hv5 hG5 hd5 hg5) | (go_simp; go_at_call 53; refine ((mdx_set I5.out HTN.out HV5.out.1 HV5.out.2 HN.out.2.2 HN.out.1 (by have := hzN.out; have := HzI.out; have := hz5.out; omega) (by have := hzN.out; have := HzI.out; omega) hk40 _ (by rfl) (by rfl) (by rfl) (by rfl))).mono ?_; rintro e w6 ⟨yk, yn, e2, l2, p2, e3, l3, p3, e4, l4, p4, rfl, hrow6, hM6⟩; obtain ⟨v0', v1', v2', v3', v4', vf'⟩ := row5 hrow6; have g0 := vf' 0; have g1 := vf' 1; have g2 := vf' 2; have g3 := vf' 3; have g4 := vf' 4; replace hM6 := hide' hM6; clear hrow6 vf') | fail)
        all_goals (clear HI HE HNm o0 o1 o2 o3 o4 of)
        all_goals go_wp2
        all_goals go_roundw
        all_goals first | (simp [intOf]; omega; done) | exact ⟨k + 1, by omega, by go_num, _, _, _, _, _, _, _, _, _, _, _, hM6⟩
      · have hltn : ¬ (k : Int) < (N : Int) := by omega
        have HD3 := hide' HI.out.2.2.2.2.1
        have HR3 := hide' ((HI.out.1.2.2.2.2 w.heap.size (by omega) (by omega) (by omega)).trans HR2.out)
        have hz3 : w.heap.size < wr.heap.size := (Array.getElem?_eq_some_iff.1 HR3.out).1
        have HG3 : Hid (w.grownBy wr (some g)) := hide' ⟨HI.out.1.1.trans HG2.out.os, HI.out.1.2.1.trans HG2.out.tape, HI.out.1.2.2.1.trans HG2.out.output, by have := HG2.out.size; have := HzI.out; omega, fun b hb hne => (HI.out.1.2.2.2.2 b (by have := HG2.out.size; omega) (by omega) (by simpa using hne)).trans (HG2.out.block b hb hne)⟩
        obtain ⟨v, hvS, hvG⟩ := HI.out.2.2.1
        have HVf := hide' (And.intro hvS hvG)
        obtain rfl : vk = 5 := HI.out.2.2.2.1
        have hk3 : k ≤ 3 := by omega
        clear of hvS hvG
        obtain ⟨r0, r1, r2, r3, r4, rf⟩ := row5 HR3.out
        have f0 := rf 0
        have f1 := rf 1
        have f2 := rf 2
        have f3 := rf 3
        have f4 := rf 4
        clear rf
        go_wp2_with fail
        have hfin := row5 (set5_heap (j := 0) (.int .i64 5) (.int .i64 vn) (.slice a2 l2 p2) (.slice a3 l3 p3) (.slice a4 l4 p4) HR3.out)
        simp only [set5, Nat.zero_add] at hfin
        obtain ⟨x0, x1, x2, x3, x4, _⟩ := hfin
        refine bodyPost_ret (v := .agg #[.int .i64 5, .int .i64 vn, .slice a2 l2 p2, .slice a3 l3 p3, .slice a4 l4 p4]) (by simp [results, Tryz.results28, go_sem, x0, x1, x2, x3, x4]) rfl ?_
        subst hn
        exact dx_end HD3.out HG3.out hgl HLt.out hz3 ⟨v, VSeg.mono (fun b hb => ⟨by omega, hb.2⟩) _ HVf.out.1, HVf.out.2.good hk3⟩
end Go.Proofs.YthnkedbmfhokiaaGreatDoor
