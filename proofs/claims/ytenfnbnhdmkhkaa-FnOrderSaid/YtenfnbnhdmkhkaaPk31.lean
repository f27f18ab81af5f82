/-
  Texts that a law leans on, one behind the other; no statement is proved here.
-/
import Derived.Test.YtenfnbnhdmkhkaaPk30
import Derived.Test.YtenfnbnhdmkhkaaPk29
import Derived.Test.YtenfnbnhdmkhkaaPk10
/-
  What the law FnOrder hands its draws and verdicts through: more, num, sameBytes, same. No statement is proved here.
-/
namespace Go.Proofs.Ytenfnbnhdmkhkaa
open Go.RowKit
set_option linter.unusedVariables false
set_option linter.unusedSimpArgs false

/-- Two bytes laid in a block of their own. -/
theorem bts_two (w : World) (c d : Int) (h : Byt c) (h' : Byt d) : Bts (w.alloc (.cells #[.int .u8 c, .int .u8 d] 5)) w.heap.size (.slice (some ⟨w.heap.size, 0, none⟩) 2 2) [c, d] :=
  ⟨by intro x hx; simp at hx; rcases hx with rfl | rfl <;> assumption, by simpa [cellsOf] using World.ownsRow_lit (base := w.heap.size) (e := 5) (size := 1) w #[.int .u8 c, .int .u8 d] 2 (Nat.le_refl _) (by decide) rfl⟩

/-- 'append(own, ys...)' within the reach. -/
theorem wpList_append_far {w : World} {ops : Array Oper} {rest : List Oper} {o : Oper} {a : Act} {Q : Exit → Act → World → Prop} (hgd : o.guard = none) (s x : Operand)
    (ho : o.op = .call { callee := .builtin .append, args := #[s, x], argTypes := #[22, 22] })
    (base : Nat) (v : Value) (xs ys : List Int) (hs : a.eval s = v) (hB : Bts w base v xs) (ad : Option Addr) (m c : Nat) (hm : m = ys.length) (hx : a.eval x = .slice ad m c) (hS : Seg w ad ys) (hc : ad = none → c = 0)
    (hlen : xs.length + ys.length ≤ 140737488355328) (hbase : base ≤ w.heap.size)
    (h : ∀ v' w', Bts w' base v' (xs ++ ys) → w.grownBy w' v.ownBlock → wpList Try.prog ops Q rest (a.put o.dst v') w') : wpList Try.prog ops Q (o :: rest) a w := by
  obtain ⟨i0, hi, hz0, hz1, hz2⟩ := info_parts info5
  have hbyt : ∀ z ∈ xs ++ ys, Byt z := by
    intro z hz
    rcases List.mem_append.1 hz with h1 | h1
    · exact hB.1 z h1
    · exact hS.1 z h1
  subst hm
  cases ad with
  | none =>
    have hc0 := hc rfl
    have hy : ys = [] := by
      rcases hS.2 with h0 | ⟨b, off, h1, _⟩
      · exact h0
      · simp at h1
    subst hc0
    subst hy
    refine wpList_append_own_none hgd s x 22 ho base 5 i0 1 Try.underlying22 hi v xs.length (cellsOf xs) hs hB.2 hx ?_
    exact h v w (by simpa using hB) (World.grownBy.refl _ _)
  | some ad =>
    refine wpList_append_own w hgd s x 22 ho base 5 i0 (.int .u8 0) 1 1 Try.underlying22 hi hz0 hz1 hz2 rfl (by decide) v xs.length (cellsOf xs) hs hB.2 ad ys.length c (cellsOf ys) hx (by simp [cellsOf]) ?_ ?_ (by unfold maxLen; omega) (by omega) hbase ?_
    · intro j u hu
      rcases hS.2 with h0 | ⟨b, off, h1, h2⟩
      · subst h0; simp [cellsOf] at hu
      · simp at h1
        subst h1
        have hj : j < ys.length := by
          have := (List.getElem?_eq_some_iff.1 hu).1
          simpa [cellsOf] using this
        rw [Addr.add_lit, h2 j hj]
        simp [cellsOf, hj] at hu
        simp [hj, hu]
    · intro u hu
      simp only [cellsOf, List.mem_map] at hu
      obtain ⟨q, _, rfl⟩ := hu
      rfl
    · intro v' w' ho' hg' _
      exact h v' w' ⟨hbyt, by rw [cellsOf_append]; simpa using ho'⟩ hg'

/-- What 'more' answers: two bytes ahead of the code, in a row of its own. -/
def MoreEnd (xs : List Int) (w : World) (e : Ending) (w' : World) : Prop :=
  ∃ a2 cap2, e = .returned (.slice a2 (1 :: 7 :: xs).length cap2) ∧ Seg w' a2 (1 :: 7 :: xs) ∧ Below w.heap.size w w'

theorem more_end {xs : List Int} {w w' : World} {v : Value} (hB : Bts w' w.heap.size v ([1, 7] ++ xs)) (hg : (w.alloc (.cells #[.int .u8 1, .int .u8 7] 5)).grownBy w' (some w.heap.size)) : MoreEnd xs w (.returned v) w' := by
  obtain ⟨a2, cap2, rfl, hS, _⟩ := hB.shape
  refine ⟨a2, cap2, rfl, hS, ?_⟩
  exact ((Below.refl _ w).alloc (Nat.le_refl _) _).grown hg (by simp) (by intro j hj; simp at hj; omega)

set_option maxHeartbeats 400000 in
theorem more_any (a : Option Addr) (cap : Nat) (xs : List Int) (w : World) (ha : Seg w a xs) (hc : a = none → cap = 0) (hl : xs.length ≤ 140737488351232) :
    Calls Try.prog 7 #[.slice a xs.length cap, .int .i64 1] w (MoreEnd xs w) := by
  have hB := bts_two w 1 7 (by unfold Byt; omega) (by unfold Byt; omega)
  have hS := ha.grow ((Below.refl _ w).alloc (Nat.le_refl _) (.cells #[.int .u8 1, .int .u8 7] 5))
  have HE : Hid (∀ v' w', Bts w' w.heap.size v' ([1, 7] ++ xs) → (w.alloc (.cells #[.int .u8 1, .int .u8 7] 5)).grownBy w' (some w.heap.size) → MoreEnd xs w (.returned v') w') := hide' fun v' w' h1 h2 => more_end h1 h2
  have HL : Hid (([1, 7] : List Int).length + xs.length ≤ 140737488355328) := hide' (by simp; omega)
  have hz : w.heap.size ≤ (w.alloc (.cells #[.int .u8 1, .int .u8 7] 5)).heap.size := by simp
  go_enter Try.func7, Try.ntmps7
  go_wp2_with (first | (refine wpList_append_far rfl _ _ rfl w.heap.size _ [1, 7] xs rfl (by exact hB) a _ cap rfl rfl (by exact hS) hc HL.out hz ?_; intro v' w' hB' hg'; have HF := hide' (HE.out v' w' hB' hg'); obtain ⟨a2, cap2, rfl, hS2, _⟩ := hB'.shape; clear hB' hg' hS2) | fail)
  go_ret
  exact HF.out

theorem num_any (n : Int) (w : World) : Calls Try.prog 10 #[.int .i64 n] w fun e w' => e = .returned (.agg #[.int .i64 2, .int .i64 n, .slice none 0 0, .slice none 0 0, .slice none 0 0]) ∧ Below w.heap.size w w' := by
  have h1 := heap_alloc_new w (.cells #[.int .i64 0, .int .i64 0, .slice none 0 0, .slice none 0 0, .slice none 0 0] 26)
  obtain ⟨o0, o1, o2, o3, o4, _⟩ := row5 h1
  have h2 := set5_row (.int .i64 2) (.int .i64 n) (.slice none 0 0) (.slice none 0 0) (.slice none 0 0) h1
  obtain ⟨s0, s1, s2, s3, s4, _⟩ := row5 h2
  simp only [set5, Nat.zero_add] at s0 s1 s2 s3 s4
  clear h1 h2
  go_enter Try.func10, Try.ntmps10
  go_wp2_with fail
  refine bodyPost_ret (v := .agg #[.int .i64 2, .int .i64 n, .slice none 0 0, .slice none 0 0, .slice none 0 0]) (by simp [results, Try.results10, go_sem, s0, s1, s2, s3, s4]; done) rfl ?_
  exact ⟨rfl, (Below.refl _ w).alloc (Nat.le_refl _) _⟩

set_option maxHeartbeats 400000 in
theorem sameBy_any (a b : Option Addr) (c1 c2 : Nat) (xs ys : List Int) (w : World) (ha : Seg w a xs) (hb : Seg w b ys) :
    Calls Try.prog 18 #[.slice a xs.length c1, .slice b ys.length c2] w fun e w' => e = .returned (.bool (decide (xs = ys))) ∧ w = w' := by
  have h1 := conv_seg c1 ha
  have h2 := conv_seg c2 hb
  have HE := hide' (strOf_eq ha.1 hb.1)
  generalize xs.length = n at *
  generalize ys.length = m at *
  go_enter Try.func18, Try.ntmps18
  go_wp2
  go_ret
  exact ⟨ret_bool HE.out, rfl⟩

/-- Both may be, and have the same bytes. -/
def sameV (d : Nat) (a b : Vl d) : Bool := okB d a && okB d b && decide (valBytes d a = valBytes d b)

set_option maxHeartbeats 800000 in
theorem same_any (d N : Nat) (c0 c1 c2 c3 c4 e0 e1 e2 e3 e4 : Value) (a b : Vl d) (w : World) (ha : VSeg (fun b => b < N) w d (c0, c1, c2, c3, c4) a) (hb : VSeg (fun b => b < N) w d (e0, e1, e2, e3, e4) b) (hN : N ≤ w.heap.size) :
    Calls Try.prog 11 #[.agg #[c0, c1, c2, c3, c4], .agg #[e0, e1, e2, e3, e4]] w fun e w' => e = .returned (.bool (sameV d a b)) ∧ Below w.heap.size w w' := by
  have Hb2 : Hid (∀ o o' : Obj, Below w.heap.size w ((w.alloc o).alloc o')) := fun o o' => ((Below.refl _ _).alloc (Nat.le_refl _) o).alloc (by simp) o'
  have Hr : Hid (∀ (o o' : Obj) (wx : World), Below ((w.alloc o).alloc o').heap.size ((w.alloc o).alloc o') wx → wx.heap[w.heap.size]? = some o ∧ wx.heap[w.heap.size + 1]? = some o') := fun o o' wx h => rows2 h
  have H1 : Hid (∀ wx, Below w.heap.size w wx → Calls Try.prog 29 #[.agg #[c0, c1, c2, c3, c4]] wx (ByEnd d a wx)) := fun wx h =>
    spec_ValBytes_any d N _ _ _ _ _ a wx (VSeg.agree (agree_below (h.mono hN)) d ha) (by have := h.size; omega)
  have H2 : Hid (∀ wx, Below w.heap.size w wx → Calls Try.prog 29 #[.agg #[e0, e1, e2, e3, e4]] wx (ByEnd d b wx)) := fun wx h =>
    spec_ValBytes_any d N _ _ _ _ _ b wx (VSeg.agree (agree_below (h.mono hN)) d hb) (by have := h.size; omega)
  clear ha hb
  go_enter Try.func11, Try.ntmps11
  go_wp2_with fail
  have HB0 := hide' (Hb2.out (.cells #[c0, c1, c2, c3, c4] 26) (.cells #[e0, e1, e2, e3, e4] 26))
  have HR0 := hide' (Hr.out (.cells #[c0, c1, c2, c3, c4] 26) (.cells #[e0, e1, e2, e3, e4] 26))
  refine (H1.out _ (by exact HB0.out)).mono ?_
  rintro e w1 ⟨p1, n1, q1, rfl, hB1, hb1⟩
  have HB1 := hide' (HB0.out.trans (hb1.mono (by simp <;> omega)))
  obtain ⟨hx, hy⟩ := HR0.out w1 hb1
  obtain ⟨o0, o1, o2, o3, o4, _⟩ := row5 hy
  have HS1 := hide' (Bts.seg hB1)
  have HN1 : Hid (n1 = (valBytes d a).length) := hide' (by obtain ⟨_, _, he, _⟩ := hB1.shape; simp at he; exact he.2.1)
  clear hb1 hB1 HB0 HR0 hx hy
  generalize hka : okB d a = ka at *
  go_wp2_with fail
  refine (H2.out _ (by exact HB1.out)).mono ?_
  rintro e w2 ⟨p2, n2, q2, rfl, hB2, hb2⟩
  have HB2 := hide' (Below.on2 HB1.out hb2 HB1.out.size)
  have HS2 := hide' (Bts.seg hB2)
  have HN2 : Hid (n2 = (valBytes d b).length) := hide' (by obtain ⟨_, _, he, _⟩ := hB2.shape; simp at he; exact he.2.1)
  have HC := hide' (sameBy_any p1 p2 q1 q2 (valBytes d a) (valBytes d b) w2 (HS1.out.grow hb2) HS2.out)
  have HT1 : Hid (okB d a = ka) := hide' hka
  generalize hkb : okB d b = kb at *
  have HT2 : Hid (okB d b = kb) := hide' hkb
  rw [← HN1.out, ← HN2.out] at HC
  clear hb2 hB2 HB1 HS1 HS2 HN1 HN2 hka hkb H1 H2 Hb2 Hr
  cases ka
  · go_wp2_with fail
    go_ret
    exact ⟨ret_bool (by simp [sameV, HT1.out]), HB2.out⟩
  · cases kb
    · go_wp2_with fail
      go_ret
      exact ⟨ret_bool (by simp [sameV, HT2.out]), HB2.out⟩
    · go_wp2_with fail
      refine HC.out.mono ?_
      rintro e w3 ⟨rfl, rfl⟩
      generalize hdb : decide (valBytes d a = valBytes d b) = bo at *
      have HD := hide' hdb
      clear hdb
      go_wp2_with fail
      go_ret
      exact ⟨ret_bool (by have := HD.out; have h1 := HT1.out; have h2 := HT2.out; simp [sameV, h1, h2, this]), HB2.out⟩
end Go.Proofs.Ytenfnbnhdmkhkaa
/-
  The law FnOrder over whatever values are drawn: they are in order.
-/
namespace Go.Proofs.Ytenfnbnhdmkhkaa
open Go.RowKit
set_option linter.unusedVariables false
set_option linter.unusedSimpArgs false

/-- Ahead, alike, behind. -/
def Tri (x : Int) : Prop := x = -1 ∨ x = 0 ∨ x = 1
theorem tri_lex {x y : Int} (h : Tri x) (k : Tri y) : Tri (lex x y) := by
  unfold lex
  split <;> assumption
theorem tri_num (a b : Int) : Tri (numC a b) := by
  unfold numC Tri
  split
  · exact .inl rfl
  · split
    · exact .inr (.inr rfl)
    · exact .inr (.inl rfl)
theorem tri_bytes : ∀ a b : List UInt8, Tri (Lib.compareBytes a b)
  | [], [] => by simp [Tri, Lib.compareBytes]
  | [], _ :: _ => by simp [Tri, Lib.compareBytes]
  | _ :: _, [] => by simp [Tri, Lib.compareBytes]
  | x :: a, y :: b => by
    rw [cmp_cons]
    exact tri_lex (tri_num _ _) (tri_bytes a b)
theorem tri_ls {α : Type} (m : Bool) (f : α → α → Int) (hf : ∀ a b, Tri (f a b)) : ∀ (aK bK : List (List Int)) (aL bL : List α), Tri (cmpLs m f aK bK aL bL)
  | _, _, [], [] => by simp [Tri, cmpLs]
  | _, _, [], _ :: _ => by simp [Tri, cmpLs]
  | _, _, _ :: _, [] => by simp [Tri, cmpLs]
  | aK, bK, a :: aL, b :: bL => by
    rw [ls_cons]
    refine tri_lex ?_ (tri_lex (hf a b) (tri_ls m f hf _ _ _ _))
    split
    · exact tri_bytes _ _
    · exact .inr (.inl rfl)
theorem tri_val : ∀ (d : Nat) (a b : Vl d), Tri (cmpV d a b)
  | 0, _, _ => .inr (.inl rfl)
  | d + 1, a, b => by
    rw [cmpV_lex]
    refine tri_lex (tri_num _ _) ?_
    split
    · exact tri_bytes _ _
    · exact tri_lex (tri_num _ _) (tri_ls _ _ (tri_val d) _ _ _ _)
theorem tri_vcI (d : Nat) (a b : Vl d) : Tri (vcI d a b) := by
  unfold vcI
  split
  · exact tri_val d a b
  · exact .inr (.inl rfl)

/-- Three that can be read, read at one depth. -/
theorem rd_three {w : World} {c d e : Value × Value × Value × Value × Value} (h1 : Rd w c) (h2 : Rd w d) (h3 : Rd w e) : ∃ D, ∃ va vb vc : Vl D, VSeg (fun b => b < w.heap.size) w D c va ∧ VSeg (fun b => b < w.heap.size) w D d vb ∧ VSeg (fun b => b < w.heap.size) w D e vc := by
  obtain ⟨D1, v1, g1⟩ := h1
  obtain ⟨D2, v2, g2⟩ := h2
  obtain ⟨D3, v3, g3⟩ := h3
  obtain ⟨u1, k1⟩ := g1.at_least (D := D1 + D2 + D3) (by omega)
  obtain ⟨u2, k2⟩ := g2.at_least (D := D1 + D2 + D3) (by omega)
  obtain ⟨u3, k3⟩ := g3.at_least (D := D1 + D2 + D3) (by omega)
  exact ⟨_, u1, u2, u3, k1, k2, k3⟩

/-- What is asked of three values behind their draw. -/
structure Asks (D : Nat) (W : World) (g3 g4 g5 : Nat) (a b c : Value × Value × Value × Value × Value) (va vb vc : Vl D) : Prop where
  rows : ∀ wx, Below W.heap.size W wx → wx.heap[g3]? = some (.cells #[a.1, a.2.1, a.2.2.1, a.2.2.2.1, a.2.2.2.2] 26 (0, 0)) ∧ wx.heap[g4]? = some (.cells #[b.1, b.2.1, b.2.2.1, b.2.2.2.1, b.2.2.2.2] 26 (0, 0)) ∧ wx.heap[g5]? = some (.cells #[c.1, c.2.1, c.2.2.1, c.2.2.2.1, c.2.2.2.2] 26 (0, 0))
  ab : ∀ wx, Below W.heap.size W wx → Calls Try.prog 8 #[.agg #[a.1, a.2.1, a.2.2.1, a.2.2.2.1, a.2.2.2.2], .agg #[b.1, b.2.1, b.2.2.1, b.2.2.2.1, b.2.2.2.2]] wx fun e w' => e = .returned (.int .i64 (vcI D va vb)) ∧ Below W.heap.size W w'
  ba : ∀ wx, Below W.heap.size W wx → Calls Try.prog 8 #[.agg #[b.1, b.2.1, b.2.2.1, b.2.2.2.1, b.2.2.2.2], .agg #[a.1, a.2.1, a.2.2.1, a.2.2.2.1, a.2.2.2.2]] wx fun e w' => e = .returned (.int .i64 (vcI D vb va)) ∧ Below W.heap.size W w'
  bc : ∀ wx, Below W.heap.size W wx → Calls Try.prog 8 #[.agg #[b.1, b.2.1, b.2.2.1, b.2.2.2.1, b.2.2.2.2], .agg #[c.1, c.2.1, c.2.2.1, c.2.2.2.1, c.2.2.2.2]] wx fun e w' => e = .returned (.int .i64 (vcI D vb vc)) ∧ Below W.heap.size W w'
  ac : ∀ wx, Below W.heap.size W wx → Calls Try.prog 8 #[.agg #[a.1, a.2.1, a.2.2.1, a.2.2.2.1, a.2.2.2.2], .agg #[c.1, c.2.1, c.2.2.1, c.2.2.2.1, c.2.2.2.2]] wx fun e w' => e = .returned (.int .i64 (vcI D va vc)) ∧ Below W.heap.size W w'
  oka : ∀ wx, Below W.heap.size W wx → Calls Try.prog 9 #[.agg #[a.1, a.2.1, a.2.2.1, a.2.2.2.1, a.2.2.2.2]] wx fun e w' => e = .returned (.bool (okB D va)) ∧ Below W.heap.size W w'
  okb : ∀ wx, Below W.heap.size W wx → Calls Try.prog 9 #[.agg #[b.1, b.2.1, b.2.2.1, b.2.2.2.1, b.2.2.2.2]] wx fun e w' => e = .returned (.bool (okB D vb)) ∧ Below W.heap.size W w'
  okc : ∀ wx, Below W.heap.size W wx → Calls Try.prog 9 #[.agg #[c.1, c.2.1, c.2.2.1, c.2.2.2.1, c.2.2.2.2]] wx fun e w' => e = .returned (.bool (okB D vc)) ∧ Below W.heap.size W w'
  sam : ∀ wx, Below W.heap.size W wx → Calls Try.prog 11 #[.agg #[a.1, a.2.1, a.2.2.1, a.2.2.2.1, a.2.2.2.2], .agg #[b.1, b.2.1, b.2.2.1, b.2.2.2.1, b.2.2.2.2]] wx fun e w' => e = .returned (.bool (sameV D va vb)) ∧ Below W.heap.size W w'
  num : ∀ (n : Int) wx, Below W.heap.size W wx → Calls Try.prog 10 #[.int .i64 n] wx fun e w' => e = .returned (.agg #[.int .i64 2, .int .i64 n, .slice none 0 0, .slice none 0 0, .slice none 0 0]) ∧ Below W.heap.size W w'
  two : ∀ wx, Below W.heap.size W wx → Calls Try.prog 8 #[.agg #[.int .i64 2, .int .i64 2, .slice none 0 0, .slice none 0 0, .slice none 0 0], .agg #[.int .i64 2, .int .i64 1, .slice none 0 0, .slice none 0 0, .slice none 0 0]] wx fun e w' => e = .returned (.int .i64 1) ∧ Below W.heap.size W w'

theorem vseg_lf (R : Nat → Prop) (w : World) (k n : Int) : VSeg R w 1 (.int .i64 k, .int .i64 n, .slice none 0 0, .slice none 0 0, .slice none 0 0) (k, n, [], [], []) :=
  (VSeg_succ _ _ _ _ _).2 ⟨rfl, rfl, ⟨none, 0, rfl, ⟨by simp, .inl rfl⟩, by simp, by simp, fun _ => rfl, by simp⟩, ⟨none, 0, rfl, by simp, by simp, fun _ => rfl, .inl rfl⟩, ⟨none, 0, rfl, by simp, by simp, fun _ => rfl, .inl rfl⟩⟩

theorem asks_of {W : World} {g3 g4 g5 : Nat} {a b c : Value × Value × Value × Value × Value} (ha : Rd W a) (hb : Rd W b) (hc : Rd W c)
    (h3 : W.heap[g3]? = some (.cells #[a.1, a.2.1, a.2.2.1, a.2.2.2.1, a.2.2.2.2] 26 (0, 0))) (h4 : W.heap[g4]? = some (.cells #[b.1, b.2.1, b.2.2.1, b.2.2.2.1, b.2.2.2.2] 26 (0, 0))) (h5 : W.heap[g5]? = some (.cells #[c.1, c.2.1, c.2.2.1, c.2.2.2.1, c.2.2.2.2] 26 (0, 0))) :
    ∃ D, ∃ va vb vc : Vl D, Asks D W g3 g4 g5 a b c va vb vc := by
  obtain ⟨D, va, vb, vc, ka, kb, kc⟩ := rd_three ha hb hc
  have l3 : g3 < W.heap.size := (Array.getElem?_eq_some_iff.1 h3).1
  have l4 : g4 < W.heap.size := (Array.getElem?_eq_some_iff.1 h4).1
  have l5 : g5 < W.heap.size := (Array.getElem?_eq_some_iff.1 h5).1
  have hA : ∀ wx, Below W.heap.size W wx → VSeg (fun b => b < W.heap.size) wx D a va := fun wx h => VSeg.agree (agree_below h) D ka
  have hB : ∀ wx, Below W.heap.size W wx → VSeg (fun b => b < W.heap.size) wx D b vb := fun wx h => VSeg.agree (agree_below h) D kb
  have hC : ∀ wx, Below W.heap.size W wx → VSeg (fun b => b < W.heap.size) wx D c vc := fun wx h => VSeg.agree (agree_below h) D kc
  have hO : ∀ {wx w' : World}, Below W.heap.size W wx → Below wx.heap.size wx w' → Below W.heap.size W w' := fun h k => h.trans (k.mono h.size)
  refine ⟨D, va, vb, vc, ⟨?_, ?_, ?_, ?_, ?_, ?_, ?_, ?_, ?_, ?_, ?_⟩⟩
  · exact fun wx h => ⟨(h.block g3 l3).trans h3, (h.block g4 l4).trans h4, (h.block g5 l5).trans h5⟩
  · exact fun wx h => (impl_ValCmp_any D _ _ _ _ _ _ _ _ _ _ _ va vb wx (hA wx h) (hB wx h) h.size).mono fun e w' he => ⟨he.1, hO h he.2⟩
  · exact fun wx h => (impl_ValCmp_any D _ _ _ _ _ _ _ _ _ _ _ vb va wx (hB wx h) (hA wx h) h.size).mono fun e w' he => ⟨he.1, hO h he.2⟩
  · exact fun wx h => (impl_ValCmp_any D _ _ _ _ _ _ _ _ _ _ _ vb vc wx (hB wx h) (hC wx h) h.size).mono fun e w' he => ⟨he.1, hO h he.2⟩
  · exact fun wx h => (impl_ValCmp_any D _ _ _ _ _ _ _ _ _ _ _ va vc wx (hA wx h) (hC wx h) h.size).mono fun e w' he => ⟨he.1, hO h he.2⟩
  · exact fun wx h => (spec_ValOk_any D _ _ _ _ _ _ va wx (hA wx h) h.size).mono fun e w' he => ⟨he.1, hO h he.2⟩
  · exact fun wx h => (spec_ValOk_any D _ _ _ _ _ _ vb wx (hB wx h) h.size).mono fun e w' he => ⟨he.1, hO h he.2⟩
  · exact fun wx h => (spec_ValOk_any D _ _ _ _ _ _ vc wx (hC wx h) h.size).mono fun e w' he => ⟨he.1, hO h he.2⟩
  · exact fun wx h => (same_any D _ _ _ _ _ _ _ _ _ _ _ va vb wx (hA wx h) (hB wx h) h.size).mono fun e w' he => ⟨he.1, hO h he.2⟩
  · exact fun n wx h => (num_any n wx).mono fun e w' he => ⟨he.1, hO h he.2⟩
  · refine fun wx h => (impl_ValCmp_any 1 wx.heap.size _ _ _ _ _ _ _ _ _ _ (2, 2, [], [], []) (2, 1, [], [], []) wx (vseg_lf _ wx 2 2) (vseg_lf _ wx 2 1) (Nat.le_refl _)).mono fun e w' he => ⟨?_, hO h he.2⟩
    rw [he.1]
    rw [show vcI 1 ((2, 2, [], [], []) : Vl 1) (2, 1, [], [], []) = 1 by decide]

/-- The verdict's mathematics. -/
theorem or_facts {D : Nat} {va vb vc : Vl D} (ha : okB D va = true) (hb : okB D vb = true) :
    vcI D vb va = - vcI D va vb ∧ sameV D va vb = decide (vcI D va vb = 0) ∧ (okB D vc = true → 0 ≤ vcI D va vb → 0 ≤ vcI D vb vc → 0 ≤ vcI D va vc) := by
  refine ⟨?_, ?_, (or_law ha hb).2⟩
  · rw [(or_law (c := vc) ha hb).1, Int.neg_neg]
  · unfold sameV
    rw [ha, hb, vcI_yes ha hb]
    have := val_bytes ha hb
    by_cases h : cmpV D va vb = 0
    · simp [h, this.1 h]
    · have h' : ¬ valBytes D va = valBytes D vb := fun e => h (this.2 e)
      simp [h, h']

set_option maxHeartbeats 3200000 in
set_option maxRecDepth 100000 in
theorem walk_FnOrder (a : Option Addr) (cap : Nat) (xs : List Int) (w : World) (ha : Seg w a xs) (hc : a = none → cap = 0) (hl : xs.length ≤ 140737488351232) :
    Calls Try.prog 3 #[.slice a xs.length cap] w fun e w' => e = .returned (.bool true) ∧ Below w.heap.size w w' := by
  have HD := hide' (DrawValCmp_any a cap xs w ha (by unfold maxLen; omega))
  have HM : Hid (∀ wx, Below w.heap.size w wx → Calls Try.prog 7 #[.slice a xs.length cap, .int .i64 1] wx (MoreEnd xs wx)) := fun wx h => more_any a cap xs wx (ha.grow h) hc hl
  have HL : Hid ((1 :: 7 :: xs).length ≤ maxLen) := hide' (by simp [maxLen]; omega)
  clear ha hl
  generalize xs.length = n at *
  go_enter Try.func3, Try.ntmps3
  go_wp2_with fail
  refine HD.out.mono ?_
  rintro e w1 ⟨ak, an, a2, l2, p2, a3, l3, p3, a4, l4, p4, bk, bn, b2, m2, q2, b3, m3, q3, b4, m4, q4, rfl, hA1, hB1, hb1⟩
  have hbW : Below w1.heap.size w1 ((w1.alloc (.cells #[.int .i64 ak, .int .i64 an, .slice a2 l2 p2, .slice a3 l3 p3, .slice a4 l4 p4] 26)).alloc (.cells #[.int .i64 bk, .int .i64 bn, .slice b2 m2 q2, .slice b3 m3 q3, .slice b4 m4 q4] 26)) := ((Below.refl _ w1).alloc (Nat.le_refl _) _).alloc (by simp) _
  have h3 : ((w1.alloc (.cells #[.int .i64 ak, .int .i64 an, .slice a2 l2 p2, .slice a3 l3 p3, .slice a4 l4 p4] 26)).alloc (.cells #[.int .i64 bk, .int .i64 bn, .slice b2 m2 q2, .slice b3 m3 q3, .slice b4 m4 q4] 26)).heap[w1.heap.size]? = some (.cells #[.int .i64 ak, .int .i64 an, .slice a2 l2 p2, .slice a3 l3 p3, .slice a4 l4 p4] 26) := (Below.heap_alloc _ _ _ (by simp)).trans (heap_alloc_new w1 _)
  have h4 : ((w1.alloc (.cells #[.int .i64 ak, .int .i64 an, .slice a2 l2 p2, .slice a3 l3 p3, .slice a4 l4 p4] 26)).alloc (.cells #[.int .i64 bk, .int .i64 bn, .slice b2 m2 q2, .slice b3 m3 q3, .slice b4 m4 q4] 26)).heap[w1.heap.size + 1]? = some (.cells #[.int .i64 bk, .int .i64 bn, .slice b2 m2 q2, .slice b3 m3 q3, .slice b4 m4 q4] 26) := by
    have := heap_alloc_new (w1.alloc (.cells #[.int .i64 ak, .int .i64 an, .slice a2 l2 p2, .slice a3 l3 p3, .slice a4 l4 p4] 26)) (.cells #[.int .i64 bk, .int .i64 bn, .slice b2 m2 q2, .slice b3 m3 q3, .slice b4 m4 q4] 26)
    simpa using this
  have hsz : ((w1.alloc (.cells #[.int .i64 ak, .int .i64 an, .slice a2 l2 p2, .slice a3 l3 p3, .slice a4 l4 p4] 26)).alloc (.cells #[.int .i64 bk, .int .i64 bn, .slice b2 m2 q2, .slice b3 m3 q3, .slice b4 m4 q4] 26)).heap.size = w1.heap.size + 2 := by simp
  have HA1 := hide' (hA1.on hbW)
  have HB1 := hide' (hB1.on hbW)
  have Hb1 := hide' (Below.on2 hb1 hbW hb1.size)
  have HR1 := hide' (And.intro hsz (And.intro h3 h4))
  clear hA1 hB1 hb1 hbW h3 h4 hsz HD
  go_wp2_with fail
  generalize (w1.alloc (.cells #[.int .i64 ak, .int .i64 an, .slice a2 l2 p2, .slice a3 l3 p3, .slice a4 l4 p4] 26)).alloc (.cells #[.int .i64 bk, .int .i64 bn, .slice b2 m2 q2, .slice b3 m3 q3, .slice b4 m4 q4] 26) = W1 at *
  refine (HM.out W1 Hb1.out).mono ?_
  rintro e w2 ⟨c2, cap2, rfl, hS2, hb2⟩
  have HD2 := hide' (DrawValCmp_any c2 cap2 (1 :: 7 :: xs) w2 hS2 HL.out)
  have Hb2 := hide' hb2
  clear hS2 hb2 HM HL
  generalize (1 :: 7 :: xs).length = n2 at *
  go_wp2_with fail
  refine HD2.out.mono ?_
  rintro e w3 ⟨ck, cn, k2, j2, i2, k3, j3, i3, k4, j4, i4, dk, dn, d2, t2, u2, d3, t3, u3, d4, t4, u4, rfl, hC3, _, hb3⟩
  have hbW : Below w3.heap.size w3 ((w3.alloc (.cells #[.int .i64 ck, .int .i64 cn, .slice k2 j2 i2, .slice k3 j3 i3, .slice k4 j4 i4] 26)).alloc (.cells #[.int .i64 dk, .int .i64 dn, .slice d2 t2 u2, .slice d3 t3 u3, .slice d4 t4 u4] 26)) := ((Below.refl _ w3).alloc (Nat.le_refl _) _).alloc (by simp) _
  have h5 : ((w3.alloc (.cells #[.int .i64 ck, .int .i64 cn, .slice k2 j2 i2, .slice k3 j3 i3, .slice k4 j4 i4] 26)).alloc (.cells #[.int .i64 dk, .int .i64 dn, .slice d2 t2 u2, .slice d3 t3 u3, .slice d4 t4 u4] 26)).heap[w3.heap.size]? = some (.cells #[.int .i64 ck, .int .i64 cn, .slice k2 j2 i2, .slice k3 j3 i3, .slice k4 j4 i4] 26) := (Below.heap_alloc _ _ _ (by simp)).trans (heap_alloc_new w3 _)
  have hk : Below W1.heap.size W1 _ := Below.on2 (Below.on2 Hb2.out hb3 Hb2.out.size) hbW (Nat.le_trans Hb2.out.size hb3.size)
  have hz1 : W1.heap.size = w1.heap.size + 2 := HR1.out.1
  have hAs := asks_of (HA1.out.on hk) (HB1.out.on hk) (hC3.on hbW) ((hk.block w1.heap.size (by omega)).trans HR1.out.2.1) ((hk.block (w1.heap.size + 1) (by omega)).trans HR1.out.2.2) h5
  have HB0 := hide' (Hb1.out.trans (hk.mono Hb1.out.size))
  clear hz1 hk h5 hbW hb3 hC3 Hb2 HD2 HA1 HB1 HR1 Hb1
  generalize hW2 : ((w3.alloc (.cells #[.int .i64 ck, .int .i64 cn, .slice k2 j2 i2, .slice k3 j3 i3, .slice k4 j4 i4] 26)).alloc (.cells #[.int .i64 dk, .int .i64 dn, .slice d2 t2 u2, .slice d3 t3 u3, .slice d4 t4 u4] 26)) = W2 at *
  obtain ⟨D, va, vb, vc, hQ⟩ := hAs
  have HQ := hide' hQ
  have HW : Hid (∀ wx, Below W2.heap.size W2 wx → wx.heap[w1.heap.size]? = some (.cells #[.int .i64 ak, .int .i64 an, .slice a2 l2 p2, .slice a3 l3 p3, .slice a4 l4 p4] 26 (0, 0)) ∧ wx.heap[w1.heap.size + 1]? = some (.cells #[.int .i64 bk, .int .i64 bn, .slice b2 m2 q2, .slice b3 m3 q3, .slice b4 m4 q4] 26 (0, 0)) ∧ wx.heap[w3.heap.size]? = some (.cells #[.int .i64 ck, .int .i64 cn, .slice k2 j2 i2, .slice k3 j3 i3, .slice k4 j4 i4] 26 (0, 0))) := hQ.rows
  have HE : Hid (∀ wx, Below W2.heap.size W2 wx → Below w.heap.size w wx) := fun wx h => HB0.out.trans (h.mono HB0.out.size)
  have HO : Hid (okB D va = true → okB D vb = true → vcI D vb va = - vcI D va vb ∧ sameV D va vb = decide (vcI D va vb = 0) ∧ (okB D vc = true → 0 ≤ vcI D va vb → 0 ≤ vcI D vb vc → 0 ≤ vcI D va vc)) := fun h1 h2 => or_facts h1 h2
  have HT := hide' (tri_vcI D va vb)
  have HT2 := hide' (tri_vcI D vb vc)
  have HT3 := hide' (tri_vcI D va vc)
  have HN : Hid ((okB D va = false → vcI D va vb = 0) ∧ (okB D vb = false → vcI D va vb = 0)) := ⟨vcI_no1, vcI_no2⟩
  have Hab := hide' hQ.ab
  have Hba := hide' hQ.ba
  have Hbc := hide' hQ.bc
  have Hac := hide' hQ.ac
  have Hoa := hide' hQ.oka
  have Hob := hide' hQ.okb
  have Hoc := hide' hQ.okc
  have Hsa := hide' hQ.sam
  have Hnu := hide' hQ.num
  have Htw := hide' hQ.two
  obtain ⟨x3, x4, x5⟩ := HW.out W2 (Below.refl _ _)
  rw [← hW2] at x3 x4
  have HW2 := hide' hW2
  clear hW2
  obtain ⟨o0, o1, o2, o3, o4, _⟩ := row5 x3
  obtain ⟨s0, s1, s2, s3, s4, _⟩ := row5 x4
  clear hQ HQ x3 x4 x5 HB0
  generalize hx : vcI D va vb = x at *
  generalize hy : vcI D vb va = y at *
  generalize hz : vcI D vb vc = z at *
  generalize hu : vcI D va vc = u at *
  generalize hka : okB D va = ka at *
  generalize hkb : okB D vb = kb at *
  generalize hkc : okB D vc = kc at *
  generalize hsa : sameV D va vb = sa at *
  clear hx hy hz hu hka hkb hkc hsa
  go_wp2_with fail
  obtain rfl := HW2.out
  clear HW2
  refine (Hab.out _ (Below.refl _ _)).mono ?_
  rintro e w4 ⟨rfl, hb4⟩
  have HB4 := hide' hb4
  obtain ⟨x3, x4, x5⟩ := HW.out w4 hb4
  obtain ⟨o0, o1, o2, o3, o4, _⟩ := row5 x3
  obtain ⟨s0, s1, s2, s3, s4, _⟩ := row5 x4
  clear hb4 x3 x4 x5
  go_wp2_with fail
  refine (Hoa.out w4 HB4.out).mono ?_
  rintro e w5 ⟨rfl, hb5⟩
  have HB5 := hide' hb5
  obtain ⟨x3, x4, x5⟩ := HW.out w5 hb5
  obtain ⟨o0, o1, o2, o3, o4, _⟩ := row5 x3
  obtain ⟨s0, s1, s2, s3, s4, _⟩ := row5 x4
  clear hb5 x3 x4 x5
  cases ka
  · obtain rfl : x = 0 := HN.out.1 rfl
    go_wp2_with fail
    refine (Hnu.out 2 w5 HB5.out).mono ?_
    rintro e w6 ⟨rfl, hb6⟩
    have HB6 := hide' hb6
    clear hb6
    go_wp2_with fail
    refine (Hnu.out 1 w6 HB6.out).mono ?_
    rintro e w7 ⟨rfl, hb7⟩
    have HB7 := hide' hb7
    clear hb7
    go_wp2_with fail
    refine (Htw.out w7 HB7.out).mono ?_
    rintro e w8 ⟨rfl, hb8⟩
    have HB8 := hide' hb8
    clear hb8
    go_wp2_with fail
    go_ret
    exact ⟨rfl, HE.out _ HB8.out⟩
  · go_wp2_with fail
    refine (Hob.out w5 HB5.out).mono ?_
    rintro e w6 ⟨rfl, hb6⟩
    have HB6 := hide' hb6
    obtain ⟨x3, x4, x5⟩ := HW.out w6 hb6
    obtain ⟨o0, o1, o2, o3, o4, _⟩ := row5 x3
    obtain ⟨s0, s1, s2, s3, s4, _⟩ := row5 x4
    clear x3 x4 x5 hb6
    cases kb
    · obtain rfl : x = 0 := HN.out.2 rfl
      go_wp2_with fail
      refine (Hnu.out 2 w6 HB6.out).mono ?_
      rintro e w7 ⟨rfl, hb7⟩
      have HB7 := hide' hb7
      clear hb7
      go_wp2_with fail
      refine (Hnu.out 1 w7 HB7.out).mono ?_
      rintro e w8 ⟨rfl, hb8⟩
      have HB8 := hide' hb8
      clear hb8
      go_wp2_with fail
      refine (Htw.out w8 HB8.out).mono ?_
      rintro e w9 ⟨rfl, hb9⟩
      have HB9 := hide' hb9
      clear hb9
      go_wp2_with fail
      go_ret
      exact ⟨rfl, HE.out _ HB9.out⟩
    · obtain ⟨hy, hs, hl⟩ := HO.out (by simp) (by simp)
      have HL3 := hide' hl
      clear hl HO
      go_wp2_with fail
      refine (Hba.out w6 HB6.out).mono ?_
      rintro e w7 ⟨rfl, hb7⟩
      have HB7 := hide' hb7
      obtain ⟨x3, x4, x5⟩ := HW.out w7 hb7
      obtain ⟨o0, o1, o2, o3, o4, _⟩ := row5 x3
      obtain ⟨s0, s1, s2, s3, s4, _⟩ := row5 x4
      clear x3 x4 x5 hb7
      rcases HT.out with rfl | rfl | rfl
      · obtain rfl : y = 1 := by simpa using hy
        obtain rfl : sa = false := by simpa using hs
        clear hy hs
        go_wp2_with fail
        refine (Hsa.out w7 HB7.out).mono ?_
        rintro e w8 ⟨rfl, hb8⟩
        have HB8 := hide' hb8
        obtain ⟨x3, x4, x5⟩ := HW.out w8 hb8
        obtain ⟨o0, o1, o2, o3, o4, _⟩ := row5 x3
        obtain ⟨s0, s1, s2, s3, s4, _⟩ := row5 x4
        obtain ⟨t0', t1', t2', t3', t4', _⟩ := row5 x5
        clear x3 x4 x5 hb8
        go_wp2_with fail
        refine (Hoc.out w8 HB8.out).mono ?_
        rintro e w9 ⟨rfl, hb9⟩
        have HB9 := hide' hb9
        obtain ⟨x3, x4, x5⟩ := HW.out w9 hb9
        obtain ⟨o0, o1, o2, o3, o4, _⟩ := row5 x3
        obtain ⟨s0, s1, s2, s3, s4, _⟩ := row5 x4
        obtain ⟨t0', t1', t2', t3', t4', _⟩ := row5 x5
        clear x3 x4 x5 hb9
        cases kc
        · go_wp2_with fail
          go_ret
          exact ⟨rfl, HE.out _ HB9.out⟩
        · go_wp2_with fail
          go_ret
          exact ⟨rfl, HE.out _ HB9.out⟩
      · obtain rfl : y = 0 := by simpa using hy
        obtain rfl : sa = true := by simpa using hs
        clear hy hs
        go_wp2_with fail
        refine (Hsa.out w7 HB7.out).mono ?_
        rintro e w8 ⟨rfl, hb8⟩
        have HB8 := hide' hb8
        obtain ⟨x3, x4, x5⟩ := HW.out w8 hb8
        obtain ⟨o0, o1, o2, o3, o4, _⟩ := row5 x3
        obtain ⟨s0, s1, s2, s3, s4, _⟩ := row5 x4
        obtain ⟨t0', t1', t2', t3', t4', _⟩ := row5 x5
        clear x3 x4 x5 hb8
        go_wp2_with fail
        refine (Hoc.out w8 HB8.out).mono ?_
        rintro e w9 ⟨rfl, hb9⟩
        have HB9 := hide' hb9
        obtain ⟨x3, x4, x5⟩ := HW.out w9 hb9
        obtain ⟨o0, o1, o2, o3, o4, _⟩ := row5 x3
        obtain ⟨s0, s1, s2, s3, s4, _⟩ := row5 x4
        obtain ⟨t0', t1', t2', t3', t4', _⟩ := row5 x5
        clear x3 x4 x5 hb9
        cases kc
        · go_wp2_with fail
          go_ret
          exact ⟨rfl, HE.out _ HB9.out⟩
        · go_wp2_with fail
          refine (Hbc.out w9 HB9.out).mono ?_
          rintro e w10 ⟨rfl, hb10⟩
          have HB10 := hide' hb10
          obtain ⟨x3, x4, x5⟩ := HW.out w10 hb10
          obtain ⟨o0, o1, o2, o3, o4, _⟩ := row5 x3
          obtain ⟨s0, s1, s2, s3, s4, _⟩ := row5 x4
          obtain ⟨t0', t1', t2', t3', t4', _⟩ := row5 x5
          clear x3 x4 x5 hb10
          rcases HT2.out with rfl | rfl | rfl
          · go_wp2_with fail
            go_ret
            exact ⟨rfl, HE.out _ HB10.out⟩
          · go_wp2_with fail
            refine (Hac.out w10 HB10.out).mono ?_
            rintro e w11 ⟨rfl, hb11⟩
            have HB11 := hide' hb11
            clear hb11
            rcases HT3.out with rfl | rfl | rfl
            · exact absurd (HL3.out (by simp) (by decide) (by decide)) (by decide)
            · go_wp2_with fail
              go_ret
              exact ⟨rfl, HE.out _ HB11.out⟩
            · go_wp2_with fail
              go_ret
              exact ⟨rfl, HE.out _ HB11.out⟩
          · go_wp2_with fail
            refine (Hac.out w10 HB10.out).mono ?_
            rintro e w11 ⟨rfl, hb11⟩
            have HB11 := hide' hb11
            clear hb11
            rcases HT3.out with rfl | rfl | rfl
            · exact absurd (HL3.out (by simp) (by decide) (by decide)) (by decide)
            · go_wp2_with fail
              go_ret
              exact ⟨rfl, HE.out _ HB11.out⟩
            · go_wp2_with fail
              go_ret
              exact ⟨rfl, HE.out _ HB11.out⟩
      · obtain rfl : y = -1 := by simpa using hy
        obtain rfl : sa = false := by simpa using hs
        clear hy hs
        go_wp2_with fail
        refine (Hsa.out w7 HB7.out).mono ?_
        rintro e w8 ⟨rfl, hb8⟩
        have HB8 := hide' hb8
        obtain ⟨x3, x4, x5⟩ := HW.out w8 hb8
        obtain ⟨o0, o1, o2, o3, o4, _⟩ := row5 x3
        obtain ⟨s0, s1, s2, s3, s4, _⟩ := row5 x4
        obtain ⟨t0', t1', t2', t3', t4', _⟩ := row5 x5
        clear x3 x4 x5 hb8
        go_wp2_with fail
        refine (Hoc.out w8 HB8.out).mono ?_
        rintro e w9 ⟨rfl, hb9⟩
        have HB9 := hide' hb9
        obtain ⟨x3, x4, x5⟩ := HW.out w9 hb9
        obtain ⟨o0, o1, o2, o3, o4, _⟩ := row5 x3
        obtain ⟨s0, s1, s2, s3, s4, _⟩ := row5 x4
        obtain ⟨t0', t1', t2', t3', t4', _⟩ := row5 x5
        clear x3 x4 x5 hb9
        cases kc
        · go_wp2_with fail
          go_ret
          exact ⟨rfl, HE.out _ HB9.out⟩
        · go_wp2_with fail
          refine (Hbc.out w9 HB9.out).mono ?_
          rintro e w10 ⟨rfl, hb10⟩
          have HB10 := hide' hb10
          obtain ⟨x3, x4, x5⟩ := HW.out w10 hb10
          obtain ⟨o0, o1, o2, o3, o4, _⟩ := row5 x3
          obtain ⟨s0, s1, s2, s3, s4, _⟩ := row5 x4
          obtain ⟨t0', t1', t2', t3', t4', _⟩ := row5 x5
          clear x3 x4 x5 hb10
          rcases HT2.out with rfl | rfl | rfl
          · go_wp2_with fail
            go_ret
            exact ⟨rfl, HE.out _ HB10.out⟩
          · go_wp2_with fail
            refine (Hac.out w10 HB10.out).mono ?_
            rintro e w11 ⟨rfl, hb11⟩
            have HB11 := hide' hb11
            clear hb11
            rcases HT3.out with rfl | rfl | rfl
            · exact absurd (HL3.out (by simp) (by decide) (by decide)) (by decide)
            · go_wp2_with fail
              go_ret
              exact ⟨rfl, HE.out _ HB11.out⟩
            · go_wp2_with fail
              go_ret
              exact ⟨rfl, HE.out _ HB11.out⟩
          · go_wp2_with fail
            refine (Hac.out w10 HB10.out).mono ?_
            rintro e w11 ⟨rfl, hb11⟩
            have HB11 := hide' hb11
            clear hb11
            rcases HT3.out with rfl | rfl | rfl
            · exact absurd (HL3.out (by simp) (by decide) (by decide)) (by decide)
            · go_wp2_with fail
              go_ret
              exact ⟨rfl, HE.out _ HB11.out⟩
            · go_wp2_with fail
              go_ret
              exact ⟨rfl, HE.out _ HB11.out⟩
end Go.Proofs.Ytenfnbnhdmkhkaa
