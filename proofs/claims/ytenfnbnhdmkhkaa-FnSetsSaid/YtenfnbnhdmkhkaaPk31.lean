/-
  Texts that a law leans on, one behind the other; no statement is proved here.
-/
import Derived.Test.YtenfnbnhdmkhkaaPk30
import Derived.Test.YtenfnbnhdmkhkaaPk29
import Derived.Test.YtenfnbnhdmkhkaaPk10
/-
  What the law FnOrder hands its draws and verdicts through: more, num, sameBytes, same. No statement is proved here.
-/
namespace Go.Proofs.Ytenfnbnhdmkhkaa
open Go.RowKit
set_option linter.unusedVariables false
set_option linter.unusedSimpArgs false

/-- Two bytes laid in a block of their own. -/
theorem bts_two (w : World) (c d : Int) (h : Byt c) (h' : Byt d) : Bts (w.alloc (.cells #[.int .u8 c, .int .u8 d] 5)) w.heap.size (.slice (some ⟨w.heap.size, 0, none⟩) 2 2) [c, d] :=
  ⟨by intro x hx; simp at hx; rcases hx with rfl | rfl <;> assumption, by simpa [cellsOf] using World.ownsRow_lit (base := w.heap.size) (e := 5) (size := 1) w #[.int .u8 c, .int .u8 d] 2 (Nat.le_refl _) (by decide) rfl⟩

/-- 'append(own, ys...)' within the reach. -/
theorem wpList_append_far {w : World} {ops : Array Oper} {rest : List Oper} {o : Oper} {a : Act} {Q : Exit → Act → World → Prop} (hgd : o.guard = none) (s x : Operand)
    (ho : o.op = .call { callee := .builtin .append, args := #[s, x], argTypes := #[22, 22] })
    (base : Nat) (v : Value) (xs ys : List Int) (hs : a.eval s = v) (hB : Bts w base v xs) (ad : Option Addr) (m c : Nat) (hm : m = ys.length) (hx : a.eval x = .slice ad m c) (hS : Seg w ad ys) (hc : ad = none → c = 0)
    (hlen : xs.length + ys.length ≤ 140737488355328) (hbase : base ≤ w.heap.size)
    (h : ∀ v' w', Bts w' base v' (xs ++ ys) → w.grownBy w' v.ownBlock → wpList Try.prog ops Q rest (a.put o.dst v') w') : wpList Try.prog ops Q (o :: rest) a w := by
  obtain ⟨i0, hi, hz0, hz1, hz2⟩ := info_parts info5
  have hbyt : ∀ z ∈ xs ++ ys, Byt z := by
    intro z hz
    rcases List.mem_append.1 hz with h1 | h1
    · exact hB.1 z h1
    · exact hS.1 z h1
  subst hm
  cases ad with
  | none =>
    have hc0 := hc rfl
    have hy : ys = [] := by
      rcases hS.2 with h0 | ⟨b, off, h1, _⟩
      · exact h0
      · simp at h1
    subst hc0
    subst hy
    refine wpList_append_own_none hgd s x 22 ho base 5 i0 1 Try.underlying22 hi v xs.length (cellsOf xs) hs hB.2 hx ?_
    exact h v w (by simpa using hB) (World.grownBy.refl _ _)
  | some ad =>
    refine wpList_append_own w hgd s x 22 ho base 5 i0 (.int .u8 0) 1 1 Try.underlying22 hi hz0 hz1 hz2 rfl (by decide) v xs.length (cellsOf xs) hs hB.2 ad ys.length c (cellsOf ys) hx (by simp [cellsOf]) ?_ ?_ (by unfold maxLen; omega) (by omega) hbase ?_
    · intro j u hu
      rcases hS.2 with h0 | ⟨b, off, h1, h2⟩
      · subst h0; simp [cellsOf] at hu
      · simp at h1
        subst h1
        have hj : j < ys.length := by
          have := (List.getElem?_eq_some_iff.1 hu).1
          simpa [cellsOf] using this
        rw [Addr.add_lit, h2 j hj]
        simp [cellsOf, hj] at hu
        simp [hj, hu]
    · intro u hu
      simp only [cellsOf, List.mem_map] at hu
      obtain ⟨q, _, rfl⟩ := hu
      rfl
    · intro v' w' ho' hg' _
      exact h v' w' ⟨hbyt, by rw [cellsOf_append]; simpa using ho'⟩ hg'

/-- What 'more' answers: two bytes ahead of the code, in a row of its own. -/
def MoreEnd (xs : List Int) (w : World) (e : Ending) (w' : World) : Prop :=
  ∃ a2 cap2, e = .returned (.slice a2 (1 :: 7 :: xs).length cap2) ∧ Seg w' a2 (1 :: 7 :: xs) ∧ Below w.heap.size w w'

theorem more_end {xs : List Int} {w w' : World} {v : Value} (hB : Bts w' w.heap.size v ([1, 7] ++ xs)) (hg : (w.alloc (.cells #[.int .u8 1, .int .u8 7] 5)).grownBy w' (some w.heap.size)) : MoreEnd xs w (.returned v) w' := by
  obtain ⟨a2, cap2, rfl, hS, _⟩ := hB.shape
  refine ⟨a2, cap2, rfl, hS, ?_⟩
  exact ((Below.refl _ w).alloc (Nat.le_refl _) _).grown hg (by simp) (by intro j hj; simp at hj; omega)

set_option maxHeartbeats 400000 in
theorem more_any (a : Option Addr) (cap : Nat) (xs : List Int) (w : World) (ha : Seg w a xs) (hc : a = none → cap = 0) (hl : xs.length ≤ 140737488351232) :
    Calls Try.prog 7 #[.slice a xs.length cap, .int .i64 1] w (MoreEnd xs w) := by
  have hB := bts_two w 1 7 (by unfold Byt; omega) (by unfold Byt; omega)
  have hS := ha.grow ((Below.refl _ w).alloc (Nat.le_refl _) (.cells #[.int .u8 1, .int .u8 7] 5))
  have HE : Hid (∀ v' w', Bts w' w.heap.size v' ([1, 7] ++ xs) → (w.alloc (.cells #[.int .u8 1, .int .u8 7] 5)).grownBy w' (some w.heap.size) → MoreEnd xs w (.returned v') w') := hide' fun v' w' h1 h2 => more_end h1 h2
  have HL : Hid (([1, 7] : List Int).length + xs.length ≤ 140737488355328) := hide' (by simp; omega)
  have hz : w.heap.size ≤ (w.alloc (.cells #[.int .u8 1, .int .u8 7] 5)).heap.size := by simp
  go_enter Try.func7, Try.ntmps7
  go_wp2_with (first | (refine wpList_append_far rfl _ _ rfl w.heap.size _ [1, 7] xs rfl (by exact hB) a _ cap rfl rfl (by exact hS) hc HL.out hz ?_; intro v' w' hB' hg'; have HF := hide' (HE.out v' w' hB' hg'); obtain ⟨a2, cap2, rfl, hS2, _⟩ := hB'.shape; clear hB' hg' hS2) | fail)
  go_ret
  exact HF.out

theorem num_any (n : Int) (w : World) : Calls Try.prog 10 #[.int .i64 n] w fun e w' => e = .returned (.agg #[.int .i64 2, .int .i64 n, .slice none 0 0, .slice none 0 0, .slice none 0 0]) ∧ Below w.heap.size w w' := by
  have h1 := heap_alloc_new w (.cells #[.int .i64 0, .int .i64 0, .slice none 0 0, .slice none 0 0, .slice none 0 0] 26)
  obtain ⟨o0, o1, o2, o3, o4, _⟩ := row5 h1
  have h2 := set5_row (.int .i64 2) (.int .i64 n) (.slice none 0 0) (.slice none 0 0) (.slice none 0 0) h1
  obtain ⟨s0, s1, s2, s3, s4, _⟩ := row5 h2
  simp only [set5, Nat.zero_add] at s0 s1 s2 s3 s4
  clear h1 h2
  go_enter Try.func10, Try.ntmps10
  go_wp2_with fail
  refine bodyPost_ret (v := .agg #[.int .i64 2, .int .i64 n, .slice none 0 0, .slice none 0 0, .slice none 0 0]) (by simp [results, Try.results10, go_sem, s0, s1, s2, s3, s4]; done) rfl ?_
  exact ⟨rfl, (Below.refl _ w).alloc (Nat.le_refl _) _⟩

set_option maxHeartbeats 400000 in
theorem sameBy_any (a b : Option Addr) (c1 c2 : Nat) (xs ys : List Int) (w : World) (ha : Seg w a xs) (hb : Seg w b ys) :
    Calls Try.prog 18 #[.slice a xs.length c1, .slice b ys.length c2] w fun e w' => e = .returned (.bool (decide (xs = ys))) ∧ w = w' := by
  have h1 := conv_seg c1 ha
  have h2 := conv_seg c2 hb
  have HE := hide' (strOf_eq ha.1 hb.1)
  generalize xs.length = n at *
  generalize ys.length = m at *
  go_enter Try.func18, Try.ntmps18
  go_wp2
  go_ret
  exact ⟨ret_bool HE.out, rfl⟩

/-- Both may be, and have the same bytes. -/
def sameV (d : Nat) (a b : Vl d) : Bool := okB d a && okB d b && decide (valBytes d a = valBytes d b)

set_option maxHeartbeats 800000 in
theorem same_any (d N : Nat) (c0 c1 c2 c3 c4 e0 e1 e2 e3 e4 : Value) (a b : Vl d) (w : World) (ha : VSeg (fun b => b < N) w d (c0, c1, c2, c3, c4) a) (hb : VSeg (fun b => b < N) w d (e0, e1, e2, e3, e4) b) (hN : N ≤ w.heap.size) :
    Calls Try.prog 11 #[.agg #[c0, c1, c2, c3, c4], .agg #[e0, e1, e2, e3, e4]] w fun e w' => e = .returned (.bool (sameV d a b)) ∧ Below w.heap.size w w' := by
  have Hb2 : Hid (∀ o o' : Obj, Below w.heap.size w ((w.alloc o).alloc o')) := fun o o' => ((Below.refl _ _).alloc (Nat.le_refl _) o).alloc (by simp) o'
  have Hr : Hid (∀ (o o' : Obj) (wx : World), Below ((w.alloc o).alloc o').heap.size ((w.alloc o).alloc o') wx → wx.heap[w.heap.size]? = some o ∧ wx.heap[w.heap.size + 1]? = some o') := fun o o' wx h => rows2 h
  have H1 : Hid (∀ wx, Below w.heap.size w wx → Calls Try.prog 29 #[.agg #[c0, c1, c2, c3, c4]] wx (ByEnd d a wx)) := fun wx h =>
    spec_ValBytes_any d N _ _ _ _ _ a wx (VSeg.agree (agree_below (h.mono hN)) d ha) (by have := h.size; omega)
  have H2 : Hid (∀ wx, Below w.heap.size w wx → Calls Try.prog 29 #[.agg #[e0, e1, e2, e3, e4]] wx (ByEnd d b wx)) := fun wx h =>
    spec_ValBytes_any d N _ _ _ _ _ b wx (VSeg.agree (agree_below (h.mono hN)) d hb) (by have := h.size; omega)
  clear ha hb
  go_enter Try.func11, Try.ntmps11
  go_wp2_with fail
  have HB0 := hide' (Hb2.out (.cells #[c0, c1, c2, c3, c4] 26) (.cells #[e0, e1, e2, e3, e4] 26))
  have HR0 := hide' (Hr.out (.cells #[c0, c1, c2, c3, c4] 26) (.cells #[e0, e1, e2, e3, e4] 26))
  refine (H1.out _ (by exact HB0.out)).mono ?_
  rintro e w1 ⟨p1, n1, q1, rfl, hB1, hb1⟩
  have HB1 := hide' (HB0.out.trans (hb1.mono (by simp <;> omega)))
  obtain ⟨hx, hy⟩ := HR0.out w1 hb1
  obtain ⟨o0, o1, o2, o3, o4, _⟩ := row5 hy
  have HS1 := hide' (Bts.seg hB1)
  have HN1 : Hid (n1 = (valBytes d a).length) := hide' (by obtain ⟨_, _, he, _⟩ := hB1.shape; simp at he; exact he.2.1)
  clear hb1 hB1 HB0 HR0 hx hy
  generalize hka : okB d a = ka at *
  go_wp2_with fail
  refine (H2.out _ (by exact HB1.out)).mono ?_
  rintro e w2 ⟨p2, n2, q2, rfl, hB2, hb2⟩
  have HB2 := hide' (Below.on2 HB1.out hb2 HB1.out.size)
  have HS2 := hide' (Bts.seg hB2)
  have HN2 : Hid (n2 = (valBytes d b).length) := hide' (by obtain ⟨_, _, he, _⟩ := hB2.shape; simp at he; exact he.2.1)
  have HC := hide' (sameBy_any p1 p2 q1 q2 (valBytes d a) (valBytes d b) w2 (HS1.out.grow hb2) HS2.out)
  have HT1 : Hid (okB d a = ka) := hide' hka
  generalize hkb : okB d b = kb at *
  have HT2 : Hid (okB d b = kb) := hide' hkb
  rw [← HN1.out, ← HN2.out] at HC
  clear hb2 hB2 HB1 HS1 HS2 HN1 HN2 hka hkb H1 H2 Hb2 Hr
  cases ka
  · go_wp2_with fail
    go_ret
    exact ⟨ret_bool (by simp [sameV, HT1.out]), HB2.out⟩
  · cases kb
    · go_wp2_with fail
      go_ret
      exact ⟨ret_bool (by simp [sameV, HT2.out]), HB2.out⟩
    · go_wp2_with fail
      refine HC.out.mono ?_
      rintro e w3 ⟨rfl, rfl⟩
      generalize hdb : decide (valBytes d a = valBytes d b) = bo at *
      have HD := hide' hdb
      clear hdb
      go_wp2_with fail
      go_ret
      exact ⟨ret_bool (by have := HD.out; have h1 := HT1.out; have h2 := HT2.out; simp [sameV, h1, h2, this]), HB2.out⟩
end Go.Proofs.Ytenfnbnhdmkhkaa
