/-
  Texts that a law leans on, one behind the other; no statement is proved here.
-/
import Derived.Test.YtfokidhamjphfaaDoorPk23
/-
  What stands while l6ownExpr makes its copy's box: a literal, its text, its keys, the box, in whatever order. No statement is proved here.
-/
namespace Go.Proofs.YtfokidhamjphfaaDoor
open Go.RowKit
set_option linter.unusedVariables false
set_option linter.unusedSimpArgs false

/-- A box that was just made. -/
abbrev zero5 : Obj := .cells #[.int .i64 0, .int .i64 0, .slice none 0 0, .slice none 0 0, .slice none 0 0] 26 (0, 0)

/-- What was made from world w1 on: q an empty literal, s the text's copy, k the keys', o the box. -/
structure Rs (w1 : World) (vS : List Int) (vK : List (List Int)) (V : World) (q : Option Nat) (s k : Option Value) (o : Option Nat) : Prop where
  bel : Below w1.heap.size w1 V
  lit : ∀ g, q = some g → V.heap[g]? = some (.cells #[] 5 (0, 0)) ∧ w1.heap.size ≤ g
  box : ∀ g, o = some g → V.heap[g]? = some zero5 ∧ w1.heap.size ≤ g
  own : ∃ Bs Bk : List Nat, (Bs ++ Bk).Nodup ∧ (∀ b ∈ Bs ++ Bk, w1.heap.size ≤ b ∧ b < V.heap.size ∧ o ≠ some b ∧ q ≠ some b) ∧ (∀ v, s = some v → TOwn V v vS Bs) ∧ (s = none → Bs = []) ∧ (∀ v, k = some v → KOwn V v vK Bk) ∧ (k = none → Bk = [])

section
variable {w1 V V' : World} {vS : List Int} {vK : List (List Int)} {q : Option Nat} {s k : Option Value} {o : Option Nat}

theorem Rs.start (w1 : World) (vS : List Int) (vK : List (List Int)) : Rs w1 vS vK w1 none none none none :=
  ⟨Below.refl _ _, by simp, by simp, [], [], by simp, by simp, by simp, fun _ => rfl, by simp, fun _ => rfl⟩
theorem Rs.step (h : Rs w1 vS vK V q s k o) (hb : Below V.heap.size V V') : Rs w1 vS vK V' q s k o := by
  obtain ⟨h1, h2, h3, Bs, Bk, h4, h5, h6, h7, h8, h9⟩ := h
  have hz := hb.size
  have hag : ∀ b ∈ Bs ++ Bk, V'.heap[b]? = V.heap[b]? := fun b hb' => hb.block b (h5 b hb').2.1
  refine ⟨h1.trans (hb.mono h1.size), fun g hg => ?_, fun g hg => ?_, Bs, Bk, h4, fun b hb' => ?_, fun v hv => ?_, h7, fun v hv => ?_, h9⟩
  · obtain ⟨k1, k2⟩ := h2 g hg
    exact ⟨(hb.block g (Array.getElem?_eq_some_iff.1 k1).1).trans k1, k2⟩
  · obtain ⟨k1, k2⟩ := h3 g hg
    exact ⟨(hb.block g (Array.getElem?_eq_some_iff.1 k1).1).trans k1, k2⟩
  · have := h5 b hb'
    exact ⟨this.1, by omega, this.2.2⟩
  · exact (h6 v hv).agree fun b hb' => hag b (List.mem_append.2 (.inl hb'))
  · exact (h8 v hv).agree fun b hb' => hag b (List.mem_append.2 (.inr hb'))
theorem rs_alloc (V : World) (ob : Obj) : Below V.heap.size V (V.alloc ob) := (Below.refl _ _).alloc (Nat.le_refl _) _
theorem Rs.mkLit (h : Rs w1 vS vK V none s k o) : Rs w1 vS vK (V.alloc (.cells #[] 5)) (some V.heap.size) s k o := by
  have h' := h.step (rs_alloc V (.cells #[] 5))
  obtain ⟨h1, h2, h3, Bs, Bk, h4, h5, h6, h7, h8, h9⟩ := h'
  have hz := h.bel.size
  obtain ⟨_, _, _, Bs0, Bk0, _⟩ := h
  refine ⟨h1, fun g hg => ?_, h3, ?_⟩
  · obtain rfl : V.heap.size = g := by simpa using hg
    exact ⟨heap_alloc_new V _, hz⟩
  · rename_i h0
    obtain ⟨g4, g5, g6, g7, g8, g9⟩ := h0
    refine ⟨Bs0, Bk0, g4, fun b hb => ?_, fun v hv => (g6 v hv).agree fun b hb' => Below.heap_alloc _ _ _ (g5 b (List.mem_append.2 (.inl hb'))).2.1, g7, fun v hv => (g8 v hv).agree fun b hb' => Below.heap_alloc _ _ _ (g5 b (List.mem_append.2 (.inr hb'))).2.1, g9⟩
    have := g5 b hb
    exact ⟨this.1, by simp; omega, this.2.2.1, fun e => by simp at e; omega⟩
theorem Rs.mkBox (h : Rs w1 vS vK V q s k none) : Rs w1 vS vK (V.alloc zero5) q s k (some V.heap.size) := by
  have h' := h.step (rs_alloc V zero5)
  have hz := h.bel.size
  obtain ⟨h1, h2, h3, _⟩ := h'
  obtain ⟨_, _, _, Bs0, Bk0, g4, g5, g6, g7, g8, g9⟩ := h
  refine ⟨h1, h2, fun g hg => ?_, Bs0, Bk0, g4, fun b hb => ?_, fun v hv => (g6 v hv).agree fun b hb' => Below.heap_alloc _ _ _ (g5 b (List.mem_append.2 (.inl hb'))).2.1, g7, fun v hv => (g8 v hv).agree fun b hb' => Below.heap_alloc _ _ _ (g5 b (List.mem_append.2 (.inr hb'))).2.1, g9⟩
  · obtain rfl : V.heap.size = g := by simpa using hg
    exact ⟨heap_alloc_new V _, hz⟩
  · have := g5 b hb
    exact ⟨this.1, by simp; omega, fun e => by simp at e; omega, this.2.2.2⟩
theorem Rs.app {g0 : Nat} (h : Rs w1 vS vK V (some g0) none k o) (ty : TypeId) {a : Option Addr} {c : Nat} (ha : Seg w1 a vS) (hc : a = none → c = 0) (hl : vS.length ≤ 1048576) :
    ∃ (x : Value) (w' : World), (Builtin.append_ #[22, 22] ty #[.slice (some ⟨g0, 0, none⟩) 0 0, .slice a vS.length c]).run Tryd.prog V = .ok x w' ∧ Below V.heap.size V w' ∧ Rs w1 vS vK w' none (some x) k o := by
  obtain ⟨hq, hq2⟩ := h.lit g0 rfl
  obtain ⟨x, w', hrun, hcase, gx, hT, hgx⟩ := run_append_lit V ty g0 hq a c vS (ha.grow h.bel) hc hl
  have hb : Below V.heap.size V w' := by
    rcases hcase with ⟨_, rfl, _⟩ | ⟨cap, cur, _, rfl⟩
    · exact Below.refl _ _
    · exact ((Below.refl _ V).drew).alloc (Nat.le_refl _) _
  have hlt : gx < w'.heap.size := hT.lt gx (by simp)
  have hz := h.bel.size
  have hz' := hb.size
  have hgl := (Array.getElem?_eq_some_iff.1 hq).1
  refine ⟨x, w', hrun, hb, ?_⟩
  obtain ⟨h1, h2, h3, Bs, Bk, h4, h5, h6, h7, h8, h9⟩ := h
  obtain rfl : Bs = [] := h7 rfl
  have hne : gx ∉ Bk := by
    intro hm
    have := h5 gx (by simpa using hm)
    rcases hgx with rfl | rfl
    · exact this.2.2.2 rfl
    · omega
  refine ⟨h1.trans (hb.mono hz), by simp, fun g hg => ?_, [gx], Bk, by simpa using ⟨hne, h4⟩, fun b hb' => ?_, fun v hv => (Option.some.inj hv) ▸ hT, by simp, fun v hv => (h8 v hv).agree fun b hb' => hb.block b (h5 b (by simpa using hb')).2.1, h9⟩
  · obtain ⟨k1, k2⟩ := h3 g hg
    exact ⟨(hb.block g (Array.getElem?_eq_some_iff.1 k1).1).trans k1, k2⟩
  · rcases List.mem_append.1 hb' with hb' | hb'
    · simp at hb'
      subst hb'
      refine ⟨by rcases hgx with rfl | rfl <;> omega, hlt, fun e => ?_, by simp⟩
      obtain ⟨k1, _⟩ := h3 b e
      rcases hgx with rfl | rfl
      · rw [hq] at k1; simp at k1
      · have := (Array.getElem?_eq_some_iff.1 k1).1; omega
    · have := h5 b (by simpa using hb')
      exact ⟨this.1, by omega, this.2.2.1, by simp⟩
theorem Rs.keys (h : Rs w1 vS vK V q s none o) {u : Value} {B : List Nat} (hb : Below V.heap.size V V') (hK : KOwn V' u vK B) (hB : ∀ b ∈ B, V.heap.size ≤ b ∧ b < V'.heap.size) (hn : B.Nodup) : Rs w1 vS vK V' q s (some u) o := by
  have h' := h.step hb
  have hz := h.bel.size
  have hz' := hb.size
  obtain ⟨h1, h2, h3, _⟩ := h'
  obtain ⟨_, k2, k3, Bs0, Bk0, g4, g5, g6, g7, g8, g9⟩ := h
  obtain rfl : Bk0 = [] := g9 rfl
  refine ⟨h1, h2, h3, Bs0, B, ?_, fun b hb' => ?_, fun v hv => (g6 v hv).agree fun b hb' => hb.block b (g5 b (by simpa using hb')).2.1, g7, fun v hv => (Option.some.inj hv) ▸ hK, by simp⟩
  · rw [List.nodup_append]
    refine ⟨by simpa using g4, hn, fun x hx y hy => ?_⟩
    have := g5 x (by simpa using hx)
    have := hB y hy
    omega
  · rcases List.mem_append.1 hb' with hb' | hb'
    · have := g5 b (by simpa using hb')
      exact ⟨this.1, by omega, this.2.2⟩
    · have := hB b hb'
      refine ⟨by omega, this.2, fun e => ?_, fun e => ?_⟩
      · have := (Array.getElem?_eq_some_iff.1 (k3 b e).1).1; omega
      · have := (Array.getElem?_eq_some_iff.1 (k2 b e).1).1; omega
end

/-- The copy's box, its text and its keys. -/
def XOut (w1 : World) (vk vn : Int) (vS : List Int) (vK : List (List Int)) (O : Nat) (sv kv : Value) (wf : World) : Prop :=
  Below w1.heap.size w1 wf ∧ w1.heap.size ≤ O ∧ wf.heap[O]? = some (.cells #[.int .i64 vk, .int .i64 vn, sv, kv, .slice none 0 0] 26 (0, 0)) ∧
    ∃ Bs Bk : List Nat, (Bs ++ Bk).Nodup ∧ (∀ b ∈ Bs ++ Bk, w1.heap.size ≤ b ∧ b < wf.heap.size ∧ b ≠ O) ∧ TOwn wf sv vS Bs ∧ KOwn wf kv vK Bk

theorem Rs.out {w1 V : World} {vS : List Int} {vK : List (List Int)} {sv kv : Value} {O : Nat} (h : Rs w1 vS vK V none (some sv) (some kv) (some O)) (vk vn : Int) : XOut w1 vk vn vS vK O sv kv (set5 V O 0 (.int .i64 vk) (.int .i64 vn) sv kv (.slice none 0 0)) := by
  obtain ⟨h1, h2, h3, Bs, Bk, h4, h5, h6, h7, h8, h9⟩ := h
  obtain ⟨k1, k2⟩ := h3 O rfl
  have hs := set5_grown V O 0 (.int .i64 vk) (.int .i64 vn) sv kv (.slice none 0 0)
  have hz := set5_size V O 0 (.int .i64 vk) (.int .i64 vn) sv kv (.slice none 0 0)
  have ho := set5_other V O 0 (.int .i64 vk) (.int .i64 vn) sv kv (.slice none 0 0)
  have hr := set5_heap (j := 0) (.int .i64 vk) (.int .i64 vn) sv kv (.slice none 0 0) k1
  have hne : ∀ b ∈ Bs ++ Bk, b ≠ O := fun b hb e => (h5 b hb).2.2.1 (by rw [e])
  refine ⟨h1.grown hs h1.size (by intro j hj; simp at hj; omega), k2, hr, Bs, Bk, h4, fun b hb => ?_, (h6 _ rfl).agree fun b hb => ho b (hne b (List.mem_append.2 (.inl hb))), (h8 _ rfl).agree fun b hb => ho b (hne b (List.mem_append.2 (.inr hb)))⟩
  have := h5 b hb
  exact ⟨this.1, by omega, hne b hb⟩

/-- Box, text, keys, kids: the copy. -/
theorem own_end2 {w1 wc wz wf : World} {O R d : Nat} {vk vn : Int} {vS : List Int} {vK : List (List Int)} {vL : List (Vl d)} {sv kv xl : Value} {Bl : List Nat} (h : XOut w1 vk vn vS vK O sv kv wc) (hL : LOwn wz d xl vL Bl) (hBl : ∀ b ∈ Bl, wc.heap.size ≤ b ∧ b < wz.heap.size) (hLn : Bl.Nodup) (h2 : wc.grownBy wz (some O)) (h3 : wz.grownBy wf (some R)) (hR : R < w1.heap.size) :
    ∃ B, VOwn wf (d + 1) (.int .i64 vk, .int .i64 vn, sv, kv, xl) (vk, vn, vS, vK, vL) B ∧ ∀ b ∈ B, w1.heap.size ≤ b ∧ b < wf.heap.size := by
  obtain ⟨g1, g2, g3, Bs, Bk, g4, g5, g6, g7⟩ := h
  have s1 := g1.size
  have s2 := h2.size
  have s3 := h3.size
  have hag : ∀ b ∈ Bs ++ Bk, wf.heap[b]? = wc.heap[b]? := fun b hb => by
    obtain ⟨q1, q2, q3⟩ := g5 b hb
    exact (h3.block b (by omega) (by simp; omega)).trans (h2.block b q2 (by simpa using q3))
  refine ⟨Bs ++ (Bk ++ Bl), ⟨rfl, rfl, Bs, Bk, Bl, g6.agree fun b hb => hag b (List.mem_append.2 (.inl hb)), g7.agree fun b hb => hag b (List.mem_append.2 (.inr hb)), hL.agree fun b hb => ?_, rfl, ?_⟩, fun b hb => ?_⟩
  · obtain ⟨q1, q2⟩ := hBl b hb
    exact h3.block b q2 (by simp; omega)
  · rw [← List.append_assoc, List.nodup_append]
    refine ⟨g4, hLn, fun x hx y hy => ?_⟩
    have := g5 x hx
    have := hBl y hy
    omega
  · rw [← List.append_assoc] at hb
    rcases List.mem_append.1 hb with hb | hb
    · have := g5 b hb; omega
    · have := hBl b hb; omega

theorem TOwn.slice {w : World} {v : Value} {xs : List Int} {B : List Nat} (h : TOwn w v xs B) : ∃ (a : Option Addr) (n c : Nat), v = .slice a n c := by
  rcases h.2 with ⟨rfl, _⟩ | ⟨g, cap, rfl, _⟩
  · exact ⟨_, _, _, rfl⟩
  · exact ⟨_, _, _, rfl⟩

theorem kown_shape {w : World} {v : Value} {ks : List (List Int)} {B : List Nat} (h : KOwn w v ks B) : ∃ (a : Option Addr) (n c : Nat), v = .slice a n c := by rcases h with ⟨rfl, _⟩ | ⟨g, cap, cur, Bs, rfl, _⟩ <;> exact ⟨_, _, _, rfl⟩
theorem rs_form {w1 V : World} {vS : List Int} {vK : List (List Int)} {q : Option Nat} {x : Value} {k : Option Value} {o : Option Nat} (h : Rs w1 vS vK V q (some x) k o) : ∃ (a : Option Addr) (n c : Nat), x = .slice a n c := by
  obtain ⟨_, _, _, Bs, Bk, _, _, h6, _⟩ := h
  exact (h6 x rfl).slice

theorem step_rs_app {w1 V : World} {vS : List Int} {vK : List (List Int)} {k : Option Value} {bx : Option Nat} {g0 : Nat} {ops : Array Oper} {o : Oper} {ac : Act} {K : Act → World → Prop} {Q : Exit → Act → World → Prop} {E : Prop} (hgd : o.guard = none) (s x : Operand) (ho : o.op = .call { callee := .builtin .append, args := #[s, x], argTypes := #[22, 22] })
    (h : Rs w1 vS vK V (some g0) none k bx) {a : Option Addr} {n c : Nat} (ha : Seg w1 a vS) (hn : n = vS.length) (hc : a = none → c = 0) (hl : vS.length ≤ 1048576) (hs : ac.eval s = .slice (some ⟨g0, 0, none⟩) 0 0) (hx : ac.eval x = .slice a n c)
    (hK' : ∀ (u : Value) (w' : World), Below V.heap.size V w' → Rs w1 vS vK w' none (some u) k bx → K (ac.put o.dst u) w') : if Region.wanted o (yielded ops ac.tmps) = true then Oper.wp Tryd.prog o ac V K Q else E := by
  have hw : Region.wanted o (yielded ops ac.tmps) = true := by simp [Region.wanted, hgd]
  rw [if_pos hw]
  subst hn
  obtain ⟨u, w', hrun, h1, h2⟩ := h.app o.type ha hc hl
  unfold Oper.wp
  simp [execOp, ho, resolve, invoke, builtin, hs, hx, hrun, Result.andThen]
  exact hK' u w' h1 h2
end Go.Proofs.YtfokidhamjphfaaDoor
