/-
  Texts that a law leans on, one behind the other; no statement is proved here.
-/
import Derived.Test.YtcdonbepfmhdpaaPk0
import Derived.Deep.RegionHeld3
import Derived.Deep.Cut
import Derived.Laws.StructEq
import Derived.Deep.CutRange
/-
  Draws of graphs: l9add of the specification: whatever it is handed, some edges come of it, at most one more.
-/
namespace Go.Proofs.Ytcdonbepfmhdpaa
open Go.RowKit
set_option linter.unusedVariables false
set_option linter.unusedSimpArgs false

theorem eC_append (a b : List Edg) : eC (a ++ b) = eC a ++ eC b := by simp [eC]
theorem eC_one {l : List Edg} : ∀ u ∈ eC l, u.oneCell' = true := by
  intro u hu
  unfold eC at hu
  rw [List.mem_flatten] at hu
  obtain ⟨c, hc, hu⟩ := hu
  obtain ⟨e, _, rfl⟩ := List.mem_map.1 hc
  simp at hu
  rcases hu with rfl | rfl <;> rfl
theorem eC_get {l : List Edg} {j : Nat} {u : Value} (h : (eC l)[j]? = some u) : ∃ i, ∃ hi : i < l.length, (j = i * 2 ∧ u = .int .i64 l[i].1) ∨ (j = i * 2 + 1 ∧ u = .int .i64 l[i].2) := by
  have hj : j < l.length * 2 := by
    have := (List.getElem?_eq_some_iff.1 h).1
    rw [eC_len] at this
    exact this
  refine ⟨j / 2, by omega, ?_⟩
  obtain ⟨h1, h2⟩ := eC_at (l := l) (i := j / 2) (by omega)
  rcases Nat.mod_two_eq_zero_or_one j with c | c
  · left
    have e : j = j / 2 * 2 := by omega
    rw [e, h1] at h
    exact ⟨e, by simpa using h.symm⟩
  · right
    have e : j = j / 2 * 2 + 1 := by omega
    rw [e, h2] at h
    exact ⟨e, by simpa using h.symm⟩

/-- 'append(out, ys...)', out nil or the call's own, ys whatever slice of edges. -/
theorem wpList_append_eseg {w : World} {ops : Array Oper} {rest : List Oper} {o : Oper} {a : Act} {Q : Exit → Act → World → Prop} (hgd : o.guard = none) (s x : Operand)
    (ho : o.op = .call { callee := .builtin .append, args := #[s, x], argTypes := #[23, 23] })
    (base : Nat) (v y : Value) (xs ys : List Edg) (R : Nat → Prop) (hs : a.eval s = v) (hB : EOwn w base v xs) (hx : a.eval x = y) (hS : ESeg R w y ys)
    (hlen : xs.length + ys.length ≤ 1000000) (hbase : base ≤ w.heap.size)
    (h : ∀ v' w', EOwn w' base v' (xs ++ ys) → w.grownBy w' v.ownBlock → wpList Try.prog ops Q rest (a.put o.dst v') w') : wpList Try.prog ops Q (o :: rest) a w := by
  obtain ⟨iE, hiE, hz0, hz1, hz2⟩ := info_parts infoE
  obtain ⟨ad, cap, rfl, hlc, hcm, hnone, hcell⟩ := hS
  cases ad with
  | none =>
    have hc0 := hnone rfl
    have hy : ys = [] := List.length_eq_zero_iff.1 (by omega)
    subst hc0
    subst hy
    refine wpList_append_own_none hgd s x 23 ho base 36 iE 2 Try.underlying23 hiE v xs.length (eC xs) hs hB hx ?_
    exact h v w (by simpa using hB) (World.grownBy.refl _ _)
  | some ad =>
    refine wpList_append_own w hgd s x 23 ho base 36 iE _ 2 16 Try.underlying23 hiE hz0 hz1 hz2 rfl (by decide) v xs.length (eC xs) hs hB ad ys.length cap (eC ys) hx (eC_len ys) ?_ eC_one (by unfold maxLen; omega) (by omega) hbase ?_
    · intro j u hu
      rcases hcell with h0 | ⟨b, off, h1, _, h2⟩
      · subst h0; simp [eC] at hu
      · simp at h1
        subst h1
        obtain ⟨i, hi, ⟨rfl, rfl⟩ | ⟨rfl, rfl⟩⟩ := eC_get hu
        · rw [Addr.add_lit]
          exact (h2 i hi).1
        · rw [Addr.add_lit, ← Nat.add_assoc]
          exact (h2 i hi).2
    · intro v' w' hown hg _
      refine h v' w' ?_ hg
      unfold EOwn
      rw [eC_append, List.length_append]
      exact hown

theorem ESeg.part {R : Nat → Prop} {w : World} {a : Option Addr} {n cap : Nat} {l : List Edg} (h : ESeg R w (.slice a n cap) l) {k : Nat} (hk : k ≤ l.length) : ESeg R w (.slice a k cap) (l.take k) := by
  obtain ⟨a', cap', e, g2, g3, g4, g5⟩ := h
  simp only [Value.slice.injEq] at e
  obtain ⟨rfl, rfl, rfl⟩ := e
  have hl : (l.take k).length = k := by simp; omega
  refine ⟨a, cap, by rw [hl], by omega, g3, g4, ?_⟩
  rcases g5 with g5 | ⟨b, off, g6, g7, g8⟩
  · exact .inl (by rw [g5]; simp)
  · exact .inr ⟨b, off, g6, g7, fun i hi => by
      have := g8 i (by omega)
      simpa using this⟩
theorem ESeg.rest {R : Nat → Prop} {w : World} {b off n cap : Nat} {l : List Edg} (h : ESeg R w (.slice (some ⟨b, off, none⟩) n cap) l) {k : Nat} (hk : k ≤ l.length) : ESeg R w (.slice (some ⟨b, off + k * 2, none⟩) (n - k) (cap - k)) (l.drop k) := by
  obtain ⟨a', cap', e, g2, g3, g4, g5⟩ := h
  simp only [Value.slice.injEq] at e
  obtain ⟨rfl, rfl, rfl⟩ := e
  refine ⟨some ⟨b, off + k * 2, none⟩, cap - k, by rw [List.length_drop], by rw [List.length_drop]; omega, by omega, by simp, ?_⟩
  rcases g5 with g5 | ⟨b', off', g6, g7, g8⟩
  · exact .inl (by rw [g5]; simp)
  · simp only [Option.some.injEq, Addr.mk.injEq, and_true] at g6
    obtain ⟨rfl, rfl⟩ := g6
    refine .inr ⟨b, off + k * 2, rfl, g7, fun i hi => ?_⟩
    have := g8 (k + i) (by simp at hi; omega)
    have e1 : off + (k + i) * 2 = off + k * 2 + i * 2 := by omega
    rw [e1] at this
    simpa using this

theorem eseg_new (w : World) (ef et : Int) : ESeg (fun _ => True) (w.alloc (.cells #[.int .i64 ef, .int .i64 et] 36)) (.slice (some ⟨w.heap.size, 0, none⟩) 1 1) [(ef, et)] := by
  obtain ⟨h0, h1, -⟩ := row2 (MapKept.heap_alloc w (.cells #[.int .i64 ef, .int .i64 et] 36)).1
  refine ⟨_, 1, rfl, by simp, by unfold maxLen; omega, by simp, .inr ⟨w.heap.size, 0, rfl, trivial, fun i hi => ?_⟩⟩
  have : i = 0 := by simp at hi; omega
  subst this
  exact ⟨h0, h1⟩
theorem b_far {w w1 w2 : World} {o : Obj} {r : Option Nat} (h : Below (w.alloc o).heap.size (w.alloc o) w1) (hg : w1.grownBy w2 r) (hr : ∀ k, r = some k → w.heap.size + 1 ≤ k) : Below (w.alloc o).heap.size (w.alloc o) w2 := h.grown hg h.size (fun k hk => by have := hr k hk; simp; omega)

theorem eqlE (f1 t1 ef et : Int) (w : World) : (binOp .eql 36 (.agg #[.int .i64 f1, .int .i64 t1]) (.agg #[.int .i64 ef, .int .i64 et])).run Try.prog w = .ok (.bool (f1 == ef && t1 == et)) w := by
  go_simp
  by_cases h1 : f1 = ef <;> by_cases h2 : t1 = et <;> simp [h1, h2]

theorem eseg_end {R : Nat → Prop} {w : World} {g cap k : Nat} {l : List Edg} (hk : l.length ≤ k) (hc : cap ≤ 9223372036854775807) : ESeg R w (.slice (if cap = k then some ⟨g, 0, none⟩ else some ⟨g, k * 2, none⟩) (l.length - k) (cap - k)) (l.drop k) := by
  have hd : l.drop k = [] := List.drop_eq_nil_of_le hk
  have h0 : l.length - k = 0 := by omega
  rw [hd, h0]
  split
  · exact ⟨_, _, rfl, by simp, by unfold maxLen; omega, by simp, .inl rfl⟩
  · exact ⟨_, _, rfl, by simp, by unfold maxLen; omega, by simp, .inl rfl⟩

/-- What l9add leaves. -/
def AddEnd (x : Value) (l : List Edg) (w : World) (r : Ending) (w' : World) : Prop := ∃ u l', r = .returned u ∧ l'.length ≤ l.length + 1 ∧ ((u = x ∧ l' = l) ∨ EOwn w' w.heap.size u l') ∧ Below w.heap.size w w'

set_option maxHeartbeats 6400000 in
set_option maxRecDepth 100000 in
theorem l9add_row (g cap : Nat) (l : List Edg) (ef et : Int) (w : World) (hx : EOwn w 0 (.slice (some ⟨g, 0, none⟩) l.length cap) l) (hl : l.length ≤ 1000) :
    Calls Try.prog 50 #[.slice (some ⟨g, 0, none⟩) l.length cap, .agg #[.int .i64 ef, .int .i64 et]] w (AddEnd (.slice (some ⟨g, 0, none⟩) l.length cap) l w) := by
  obtain ⟨N, hNe⟩ : ∃ N, N = w.heap.size := ⟨_, rfl⟩
  have hxs : ESeg (fun b => b < N) w (.slice (some ⟨g, 0, none⟩) l.length cap) l := by rw [hNe]; exact hx.read
  have hN : N ≤ w.heap.size := by omega
  have HX : Hid (∀ wx, Below w.heap.size w wx → ESeg (fun b => b < N) wx (.slice (some ⟨g, 0, none⟩) l.length cap) l) := fun wx hb => hxs.agree (agree_below (hb.mono hN))
  have Hb : Hid (∀ o : Obj, Below w.heap.size w (w.alloc o)) := fun o => (Below.refl _ _).alloc (Nat.le_refl _) o
  have Hbox : Hid (∀ o wx, Below (w.alloc o).heap.size (w.alloc o) wx → wx.heap[w.heap.size]? = some o) := fun o wx h => box_row h
  obtain ⟨iE, hiE, hz0, hz1, hz2⟩ := info_parts infoE
  obtain ⟨_, _, e0, hlc, hcm, -, -⟩ := hxs
  simp only [Value.slice.injEq] at e0
  obtain ⟨-, -, rfl⟩ := e0
  unfold maxLen at hcm
  clear hx hNe
  show Calls _ _ _ _ fun r w' => ∃ u l', r = .returned u ∧ l'.length ≤ l.length + 1 ∧ ((u = .slice (some ⟨g, 0, none⟩) l.length cap ∧ l' = l) ∨ EOwn w' w.heap.size u l') ∧ Below w.heap.size w w'
  have hc0 : (0 : Int) ≤ (cap : Int) := by omega
  go_enter Try.func50, Try.ntmps50
  go_wp2
  go_loopw [5] (fun i wr => ∃ k : Nat, i = .int .i64 k ∧ k ≤ l.length ∧ Hid (Below (w.alloc (.cells #[.int .i64 ef, .int .i64 et] 36)).heap.size (w.alloc (.cells #[.int .i64 ef, .int .i64 et] 36)) wr)) (fun i _ => l.length - (intOf i).toNat)
  case atStart => exact ⟨0, rfl, Nat.zero_le _, Below.refl _ _⟩
  case round =>
    obtain ⟨k, rfl, hk, hbel⟩ := hrel
    obtain ⟨g0, g1, -⟩ := row2 (Hbox.out _ _ hbel.out)
    have B := hide' (Below.on (Hb.out (.cells #[.int .i64 ef, .int .i64 et] 36)) hbel.out)
    have hk0 : (0 : Int) ≤ (k : Int) := by omega
    have hkl : (k : Int) ≤ (l.length : Int) := by omega
    have hkc : (k : Int) ≤ (cap : Int) := by omega
    by_cases hlt : k < l.length
    · have hlt' : (k : Int) < (l.length : Int) := by omega
      obtain ⟨b0, off0, e0, _, q0, q1⟩ := (HX.out wr B.out).at hlt
      simp only [Option.some.injEq, Addr.mk.injEq, and_true] at e0
      obtain ⟨rfl, rfl⟩ := e0
      rw [Nat.zero_add] at q0 q1
      generalize hf1 : l[k].1 = f1 at *
      generalize ht1 : l[k].2 = t1 at *
      have HC : Hid (Calls Try.prog 21 #[.agg #[.int .i64 f1, .int .i64 t1], .agg #[.int .i64 ef, .int .i64 et]] wr.drew fun e w2 => e = .returned (.bool (lessE (f1, t1) (ef, et))) ∧ (w2.cell? ⟨w.heap.size, 0, none⟩ = some (.int .i64 ef) ∧ w2.cell? ⟨w.heap.size, 1, none⟩ = some (.int .i64 et) ∧ w2.cell? ⟨g, k * 2, none⟩ = some (.int .i64 f1) ∧ w2.cell? ⟨g, k * 2 + 1, none⟩ = some (.int .i64 t1)) ∧ Hid (Below (w.alloc (.cells #[.int .i64 ef, .int .i64 et] 36)).heap.size (w.alloc (.cells #[.int .i64 ef, .int .i64 et] 36)) w2)) := by
        refine (l9less_any (f1, t1) (ef, et) _).mono ?_
        rintro e w2 ⟨rfl, b2⟩
        have b2' : Below wr.heap.size wr w2 := Below.on (Below.refl _ _).drew b2
        have hkp : ∀ q v, wr.cell? q = some v → w2.cell? q = some v := fun q v h => (b2'.cell (World.block_lt_of_cell? wr _ h)).trans h
        exact ⟨rfl, ⟨hkp _ _ g0, hkp _ _ g1, hkp _ _ q0, hkp _ _ q1⟩, Below.on hbel.out b2'⟩
      clear hf1 ht1
      generalize lessE (f1, t1) (ef, et) = ls at *
      cases ls with
      | true =>
        go_wp2_with fail
        go_region_held3 (fun wx => wx.cell? ⟨w.heap.size, 0, none⟩ = some (.int .i64 ef) ∧ wx.cell? ⟨w.heap.size, 1, none⟩ = some (.int .i64 et) ∧ wx.cell? ⟨g, k * 2, none⟩ = some (.int .i64 f1) ∧ wx.cell? ⟨g, k * 2 + 1, none⟩ = some (.int .i64 t1)) (go_keep) (first
          | (go_at_call 21; refine HC.out.mono ?_; rintro e w2 ⟨rfl, ⟨i0, i1, i2, i3⟩, hB2⟩)
          | fail)
        all_goals
          go_wp2
          go_roundw
          case rel => exact ⟨k + 1, by go_num, by omega, hB2⟩
          case measure => simp [intOf]; omega
      | false =>
        go_wp2_with fail
        go_region_held3 (fun wx => wx.cell? ⟨w.heap.size, 0, none⟩ = some (.int .i64 ef) ∧ wx.cell? ⟨w.heap.size, 1, none⟩ = some (.int .i64 et) ∧ wx.cell? ⟨g, k * 2, none⟩ = some (.int .i64 f1) ∧ wx.cell? ⟨g, k * 2 + 1, none⟩ = some (.int .i64 t1)) (go_keep) (first
          | (go_at_call 21; refine HC.out.mono ?_; rintro e w2 ⟨rfl, ⟨i0, i1, i2, i3⟩, hB2⟩)
          | fail)
        have HB : Hid (∀ n : Nat, Below (w.alloc (.cells #[.int .i64 ef, .int .i64 et] 36)).heap.size (w.alloc (.cells #[.int .i64 ef, .int .i64 et] 36)) (w2.drewN n)) := fun n => below_drewN hB2.out n
        clear g0 g1 q0 q1 B HC hbel
        by_cases heq : f1 = ef ∧ t1 = et
        · have hq := fun wx => (eqlE f1 t1 ef et wx).trans (by rw [show (f1 == ef && t1 == et) = true by simp [heq.1, heq.2]])
          clear heq
          go_wp2_with fail
          go_quiet (fail)
          go_wp2
          go_ret
          exact ⟨_, _, rfl, by omega, .inl ⟨rfl, rfl⟩, Below.on (Hb.out _) (HB.out _)⟩
        · have hq := fun wx => (eqlE f1 t1 ef et wx).trans (by rw [show (f1 == ef && t1 == et) = false by simpa using heq])
          clear heq
          go_wp2_with fail
          go_quiet (fail)
          have HS7 : Hid (∀ n : Nat, ESeg (fun b => b < N) (w2.drewN n) (.slice (some ⟨g, 0, none⟩) k cap) (l.take k)) := fun n => (HX.out _ (Below.on (Hb.out _) (HB.out n))).part (by omega)
          have HZ7 : Hid (∀ n : Nat, w.heap.size + 1 ≤ (w2.drewN n).heap.size) := fun n => by have := (HB.out n).size; simp at this; simp; omega
          go_wp2_with (first
            | (at_builtin; refine wpList_append_eseg rfl (.tmp 34) (.tmp 37) (by rfl) (w.heap.size + 1) (.slice none 0 0) (.slice (some ⟨g, 0, none⟩) k cap) [] (l.take k) _ (by rfl) (EOwn.nil _ _) (by rfl) (HS7.out _) (by simp; omega) (HZ7.out _) ?_; intro v8 w8 hO8 hg8; have B8 := hide' (b_far (HB.out _) hg8 (by simp [Value.ownBlock])); obtain ⟨l8, hl8⟩ : ∃ l8, l8 = [] ++ l.take k := ⟨_, rfl⟩; rw [← hl8] at hO8; have HL8 : Hid (l8.length = k) := (by show l8.length = k; rw [hl8]; simp; omega); have HO8 := hide' hO8; obtain ⟨x0, x1, -⟩ := row2 (Hbox.out _ _ B8.out); obtain ⟨ua8, uc8, hv8⟩ := HO8.out.form; subst hv8; clear hO8 hg8 HS7 HZ7 HB hl8; have hsz8 : w.heap.size + 1 ≤ (w8.alloc (.cells #[.int .i64 ef, .int .i64 et] 36)).heap.size := (by have := B8.out.size; simp at this ⊢; omega))
            | (at_builtin; refine wpList_append_eseg rfl (.tmp 39) (.tmp 41) (by rfl) (w.heap.size + 1) (.slice ua8 l8.length uc8) (.slice (some ⟨w8.heap.size, 0, none⟩) 1 1) l8 [(ef, et)] (fun _ => True) (by rfl) (HO8.out.on ((Below.refl _ _).alloc (Nat.le_refl _) _)) (by rfl) (eseg_new w8 ef et) (by have := HL8.out; simp; omega) hsz8 ?_; intro v9 w9 hO9 hg9; have B9 := hide' (b_far (B8.out.alloc (by have := B8.out.size; omega) (.cells #[.int .i64 ef, .int .i64 et] 36)) hg9 (fun q hq => (HO8.out.lt q hq).1)); obtain ⟨l9, hl9⟩ : ∃ l9, l9 = l8 ++ [(ef, et)] := ⟨_, rfl⟩; rw [← hl9] at hO9; have HL9 : Hid (l9.length = k + 1) := (by show l9.length = k + 1; rw [hl9, List.length_append, HL8.out]; rfl); have HO9 := hide' hO9; obtain ⟨ua9, uc9, hv9⟩ := HO9.out.form; subst hv9; clear hO9 hg9 x0 x1 hl9; have hsz9 : w.heap.size + 1 ≤ w9.heap.size := (by have := B9.out.size; simp at this; omega); have HS9 : Hid (ESeg (fun b => b < N) w9 (.slice (some ⟨g, k * 2, none⟩) (l.length - k) (cap - k)) (l.drop k)) := (by have := (HX.out _ (Below.on (Hb.out _) B9.out)).rest (k := k) (by omega); rw [Nat.zero_add] at this; exact this))
            | (at_builtin; refine wpList_append_eseg rfl (.tmp 43) (.tmp 46) (by rfl) (w.heap.size + 1) (.slice ua9 l9.length uc9) _ l9 (l.drop k) _ (by rfl) HO9.out (by rfl) HS9.out (by have := HL9.out; simp; omega) hsz9 ?_; intro v10 w10 hO10 hg10; have B10 := hide' (b_far B9.out hg10 (fun q hq => (HO9.out.lt q hq).1)); obtain ⟨l10, hl10⟩ : ∃ l10, l10 = l9 ++ l.drop k := ⟨_, rfl⟩; rw [← hl10] at hO10; have HL10 : Hid (l10.length ≤ l.length + 1) := (by show l10.length ≤ l.length + 1; rw [hl10, List.length_append, HL9.out, List.length_drop]; omega); have HO10 := hide' hO10; obtain ⟨ua10, uc10, hv10⟩ := HO10.out.form; subst hv10; clear hO10 hg10 hl10))
          all_goals
            go_wp2
            go_ret
            first
              | exact ⟨_, l10, rfl, HL10.out, .inr (HO10.out.down (base' := w.heap.size) (Nat.le_succ _)), Below.on (Hb.out _) B10.out⟩
              | exact ⟨_, rfl, l10, HL10.out, .inr (HO10.out.down (base' := w.heap.size) (Nat.le_succ _)), Below.on (Hb.out _) B10.out⟩
    · have hlt' : ¬ (k : Int) < (l.length : Int) := by omega
      have HB : Hid (∀ n : Nat, Below (w.alloc (.cells #[.int .i64 ef, .int .i64 et] 36)).heap.size (w.alloc (.cells #[.int .i64 ef, .int .i64 et] 36)) (wr.drewN n)) := fun n => below_drewN hbel.out n
      clear g0 g1 B hbel
      go_wp2_with fail
      go_quiet (fail)
      go_wp2_with fail
      go_quiet (fail)
      have HS7 : Hid (∀ n : Nat, ESeg (fun b => b < N) (wr.drewN n) (.slice (some ⟨g, 0, none⟩) k cap) (l.take k)) := fun n => (HX.out _ (Below.on (Hb.out _) (HB.out n))).part (by omega)
      have HZ7 : Hid (∀ n : Nat, w.heap.size + 1 ≤ (wr.drewN n).heap.size) := fun n => by have := (HB.out n).size; simp at this; simp; omega
      go_wp2_with (first
        | (at_builtin; refine wpList_append_eseg rfl (.tmp 34) (.tmp 37) (by rfl) (w.heap.size + 1) (.slice none 0 0) (.slice (some ⟨g, 0, none⟩) k cap) [] (l.take k) _ (by rfl) (EOwn.nil _ _) (by rfl) (HS7.out _) (by simp; omega) (HZ7.out _) ?_; intro v8 w8 hO8 hg8; have B8 := hide' (b_far (HB.out _) hg8 (by simp [Value.ownBlock])); obtain ⟨l8, hl8⟩ : ∃ l8, l8 = [] ++ l.take k := ⟨_, rfl⟩; rw [← hl8] at hO8; have HL8 : Hid (l8.length = k) := (by show l8.length = k; rw [hl8]; simp; omega); have HO8 := hide' hO8; obtain ⟨x0, x1, -⟩ := row2 (Hbox.out _ _ B8.out); obtain ⟨ua8, uc8, hv8⟩ := HO8.out.form; subst hv8; clear hO8 hg8 HS7 HZ7 HB hl8; have hsz8 : w.heap.size + 1 ≤ (w8.alloc (.cells #[.int .i64 ef, .int .i64 et] 36)).heap.size := (by have := B8.out.size; simp at this ⊢; omega))
        | (at_builtin; refine wpList_append_eseg rfl (.tmp 39) (.tmp 41) (by rfl) (w.heap.size + 1) (.slice ua8 l8.length uc8) (.slice (some ⟨w8.heap.size, 0, none⟩) 1 1) l8 [(ef, et)] (fun _ => True) (by rfl) (HO8.out.on ((Below.refl _ _).alloc (Nat.le_refl _) _)) (by rfl) (eseg_new w8 ef et) (by have := HL8.out; simp; omega) hsz8 ?_; intro v9 w9 hO9 hg9; have B9 := hide' (b_far (B8.out.alloc (by have := B8.out.size; omega) (.cells #[.int .i64 ef, .int .i64 et] 36)) hg9 (fun q hq => (HO8.out.lt q hq).1)); obtain ⟨l9, hl9⟩ : ∃ l9, l9 = l8 ++ [(ef, et)] := ⟨_, rfl⟩; rw [← hl9] at hO9; have HL9 : Hid (l9.length = k + 1) := (by show l9.length = k + 1; rw [hl9, List.length_append, HL8.out]; rfl); have HO9 := hide' hO9; obtain ⟨ua9, uc9, hv9⟩ := HO9.out.form; subst hv9; clear hO9 hg9 x0 x1 hl9; have hsz9 : w.heap.size + 1 ≤ w9.heap.size := (by have := B9.out.size; simp at this; omega); have HS9 : Hid (ESeg (fun b => b < N) w9 (.slice (if cap = k then some ⟨g, 0, none⟩ else some ⟨g, k * 2, none⟩) (l.length - k) (cap - k)) (l.drop k)) := (eseg_end (by omega) (by omega)))
        | (at_builtin; refine wpList_append_eseg rfl (.tmp 43) (.tmp 46) (by rfl) (w.heap.size + 1) (.slice ua9 l9.length uc9) _ l9 (l.drop k) _ (by rfl) HO9.out (by rfl) HS9.out (by have := HL9.out; simp; omega) hsz9 ?_; intro v10 w10 hO10 hg10; have B10 := hide' (b_far B9.out hg10 (fun q hq => (HO9.out.lt q hq).1)); obtain ⟨l10, hl10⟩ : ∃ l10, l10 = l9 ++ l.drop k := ⟨_, rfl⟩; rw [← hl10] at hO10; have HL10 : Hid (l10.length ≤ l.length + 1) := (by show l10.length ≤ l.length + 1; rw [hl10, List.length_append, HL9.out, List.length_drop]; omega); have HO10 := hide' hO10; obtain ⟨ua10, uc10, hv10⟩ := HO10.out.form; subst hv10; clear hO10 hg10 hl10))
      all_goals
        go_wp2
        go_ret
        first
          | exact ⟨_, l10, rfl, HL10.out, .inr (HO10.out.down (base' := w.heap.size) (Nat.le_succ _)), Below.on (Hb.out _) B10.out⟩
          | exact ⟨_, rfl, l10, HL10.out, .inr (HO10.out.down (base' := w.heap.size) (Nat.le_succ _)), Below.on (Hb.out _) B10.out⟩
end Go.Proofs.Ytcdonbepfmhdpaa
/-
  Draws of graphs: l9add of the specification, whatever edges of the call's own it is handed.
-/
namespace Go.Proofs.Ytcdonbepfmhdpaa
open Go.RowKit
set_option linter.unusedVariables false
set_option linter.unusedSimpArgs false

theorem eseg_none (R : Nat → Prop) (w : World) : ESeg R w (.slice none 0 0) [] := ⟨none, 0, rfl, Nat.le_refl _, Nat.zero_le _, fun _ => rfl, .inl rfl⟩

set_option maxHeartbeats 6400000 in
set_option maxRecDepth 100000 in
theorem l9add_nil (ef et : Int) (w : World) :
    Calls Try.prog 50 #[.slice none 0 0, .agg #[.int .i64 ef, .int .i64 et]] w (AddEnd (.slice none 0 0) [] w) := by
  have Hb : Hid (∀ o : Obj, Below w.heap.size w (w.alloc o)) := fun o => (Below.refl _ _).alloc (Nat.le_refl _) o
  have Hbox : Hid (∀ o wx, Below (w.alloc o).heap.size (w.alloc o) wx → wx.heap[w.heap.size]? = some o) := fun o wx h => box_row h
  show Calls _ _ _ _ fun r w' => ∃ u l', r = .returned u ∧ l'.length ≤ ([] : List Edg).length + 1 ∧ ((u = .slice none 0 0 ∧ l' = []) ∨ EOwn w' w.heap.size u l') ∧ Below w.heap.size w w'
  go_enter Try.func50, Try.ntmps50
  go_wp2
  go_loopw [5] (fun i wr => i = .int .i64 0 ∧ Hid (Below (w.alloc (.cells #[.int .i64 ef, .int .i64 et] 36)).heap.size (w.alloc (.cells #[.int .i64 ef, .int .i64 et] 36)) wr)) (fun _ _ => 0)
  case atStart => exact ⟨rfl, Below.refl _ _⟩
  case round =>
    obtain ⟨rfl, hbel⟩ := hrel
    have HB : Hid (∀ n : Nat, Below (w.alloc (.cells #[.int .i64 ef, .int .i64 et] 36)).heap.size (w.alloc (.cells #[.int .i64 ef, .int .i64 et] 36)) (wr.drewN n)) := fun n => below_drewN hbel.out n
    have HZ7 : Hid (∀ n : Nat, w.heap.size + 1 ≤ (wr.drewN n).heap.size) := fun n => by have := (HB.out n).size; simp at this; simp; omega
    clear hbel
    go_wp2_with fail
    go_quiet (fail)
    go_wp2_with fail
    go_quiet (fail)
    go_wp2_with (first
      | (at_builtin; refine wpList_append_eseg rfl (.tmp 34) (.tmp 37) (by rfl) (w.heap.size + 1) (.slice none 0 0) (.slice none 0 0) [] [] (fun _ => True) (by rfl) (EOwn.nil _ _) (by rfl) (eseg_none _ _) (by simp) (HZ7.out _) ?_; intro v8 w8 hO8 hg8; have B8 := hide' (b_far (HB.out _) hg8 (by simp [Value.ownBlock])); have HO8 := hide' hO8; obtain ⟨x0, x1, -⟩ := row2 (Hbox.out _ _ B8.out); obtain ⟨ua8, uc8, hv8⟩ := HO8.out.form; subst hv8; clear hO8 hg8 HZ7 HB; have hsz8 : w.heap.size + 1 ≤ (w8.alloc (.cells #[.int .i64 ef, .int .i64 et] 36)).heap.size := (by have := B8.out.size; simp at this ⊢; omega))
      | (at_builtin; refine wpList_append_eseg rfl (.tmp 39) (.tmp 41) (by rfl) (w.heap.size + 1) (.slice ua8 0 uc8) (.slice (some ⟨w8.heap.size, 0, none⟩) 1 1) [] [(ef, et)] (fun _ => True) (by rfl) (HO8.out.on ((Below.refl _ _).alloc (Nat.le_refl _) _)) (by rfl) (eseg_new w8 ef et) (by simp) hsz8 ?_; intro v9 w9 hO9 hg9; have B9 := hide' (b_far (B8.out.alloc (by have := B8.out.size; omega) (.cells #[.int .i64 ef, .int .i64 et] 36)) hg9 (fun q hq => (HO8.out.lt q hq).1)); have HO9 := hide' hO9; obtain ⟨ua9, uc9, hv9⟩ := HO9.out.form; subst hv9; clear hO9 hg9 x0 x1; have hsz9 : w.heap.size + 1 ≤ w9.heap.size := (by have := B9.out.size; simp at this; omega))
      | (at_builtin; refine wpList_append_eseg rfl (.tmp 43) (.tmp 46) (by rfl) (w.heap.size + 1) (.slice ua9 1 uc9) (.slice none 0 0) [(ef, et)] [] (fun _ => True) (by rfl) HO9.out (by rfl) (eseg_none _ _) (by simp) hsz9 ?_; intro v10 w10 hO10 hg10; have B10 := hide' (b_far B9.out hg10 (fun q hq => (HO9.out.lt q hq).1)); have HO10 := hide' hO10; obtain ⟨ua10, uc10, hv10⟩ := HO10.out.form; subst hv10; clear hO10 hg10))
    all_goals
      go_wp2
      go_ret
      first
        | exact ⟨_, [(ef, et)], rfl, by simp, .inr (HO10.out.down (base' := w.heap.size) (Nat.le_succ _)), Below.on (Hb.out _) B10.out⟩
        | exact ⟨_, rfl, [(ef, et)], by simp, .inr (HO10.out.down (base' := w.heap.size) (Nat.le_succ _)), Below.on (Hb.out _) B10.out⟩

theorem l9add_any (base : Nat) (u : Value) (l : List Edg) (ef et : Int) (w : World) (hx : EOwn w base u l) (hl : l.length ≤ 1000) :
    Calls Try.prog 50 #[u, .agg #[.int .i64 ef, .int .i64 et]] w (AddEnd u l w) := by
  obtain ⟨h1, ⟨rfl, h2⟩ | ⟨g, cap, cur, rfl, hb, hr⟩⟩ := hx
  · have : l = [] := List.length_eq_zero_iff.1 h2
    subst this
    exact l9add_nil ef et w
  · exact l9add_row g cap l ef et w ⟨h1, .inr ⟨g, cap, cur, rfl, Nat.zero_le _, hr⟩⟩ hl
end Go.Proofs.Ytcdonbepfmhdpaa
/-
  Draws of graphs: l9draw of the specification: what stands while a graph is drawn.
-/
namespace Go.Proofs.Ytcdonbepfmhdpaa
open Go.RowKit
set_option linter.unusedVariables false
set_option linter.unusedSimpArgs false

/-- What stands while a graph is drawn: the cursor in block g, the result's box, the graph's box R, its edges. -/
structure DSt (w : World) (g : Nat) (a : Option Addr) (cap : Nat) (xs : List Int) (R : Nat) (n : Int) (u : Value) (l : List Edg) (wr : World) : Prop where
  drw : Drw wr g a cap xs
  grown : w.grownBy wr (some g)
  gl : g < w.heap.size
  hR : w.heap.size < R
  code : ∀ x, a = some x → xs ≠ [] → x.block < w.heap.size
  res : wr.heap[w.heap.size]? = some (.cells #[.int .i64 0, .slice none 0 0] 25 (0, 0))
  box : wr.heap[R]? = some (.cells #[.int .i64 n, u] 25 (0, 0))
  own : EOwn wr (R + 1) u l

theorem lt_of_row {w : World} {k : Nat} {o : Obj} (h : w.heap[k]? = some o) : k < w.heap.size := (Array.getElem?_eq_some_iff.1 h).1
theorem grownBy_late {w w1 w2 : World} {g : Nat} {r : Option Nat} (h : w.grownBy w1 (some g)) (h2 : w1.grownBy w2 r) (hr : ∀ k, r = some k → k = g ∨ w.heap.size ≤ k) : w.grownBy w2 (some g) :=
  ⟨h2.os.trans h.os, h2.tape.trans h.tape, h2.output.trans h.output, Nat.le_trans h.size h2.size, fun k hk hne => (h2.block k (Nat.lt_of_lt_of_le hk h.size) (fun e => by
    rcases hr k e.symm with q | q
    · exact hne (by rw [q])
    · omega)).trans (h.block k hk hne)⟩
theorem grownBy_of_below {w w' : World} {r : Option Nat} (hb : Below w.heap.size w w') : w.grownBy w' r := ⟨hb.os, hb.tape, hb.output, hb.size, fun k hk _ => hb.block k hk⟩

section
variable {w wr w' : World} {g : Nat} {a : Option Addr} {cap : Nat} {xs : List Int} {R : Nat} {n : Int} {u : Value} {l : List Edg}
theorem DSt.step {r : Option Nat} (h : DSt w g a cap xs R n u l wr) (hg : wr.grownBy w' r) (hr : ∀ k, r = some k → R < k ∧ u.ownBlock ≠ some k) : DSt w g a cap xs R n u l w' := by
  have h1 := h.gl
  have h2 := h.hR
  refine ⟨h.drw.away hg (fun e => ?_) (fun x hx he e => ?_), grownBy_late h.grown hg (fun k hk => .inr ?_), h1, h2, h.code, ?_, ?_, h.own.far hg (fun k hk e => (hr k e).2 hk)⟩
  · have := hr _ e; omega
  · have := hr _ e; have := h.code x hx he; omega
  · have := hr _ hk; omega
  · exact (hg.block _ (lt_of_row h.res) (fun e => by have := hr _ e.symm; omega)).trans h.res
  · exact (hg.block _ (lt_of_row h.box) (fun e => by have := hr _ e.symm; omega)).trans h.box
theorem DSt.on (h : DSt w g a cap xs R n u l wr) (hb : Below wr.heap.size wr w') : DSt w g a cap xs R n u l w' := h.step (r := none) (grownBy_of_below hb) (by simp)
theorem DSt.draw (h : DSt w g a cap xs R n u l wr) (hg : wr.grownBy w' (some g)) (hd : Drw w' g a cap xs) : DSt w g a cap xs R n u l w' := by
  have h1 := h.gl
  have h2 := h.hR
  refine ⟨hd, grownBy_late h.grown hg (fun k hk => .inl (by simpa using hk.symm)), h1, h2, h.code, ?_, ?_, h.own.far hg (fun k hk e => ?_)⟩
  · exact (hg.block _ (lt_of_row h.res) (fun e => by simp at e; omega)).trans h.res
  · exact (hg.block _ (lt_of_row h.box) (fun e => by simp at e; omega)).trans h.box
  · have := h.own.lt k hk
    simp at e
    omega
theorem DSt.put {u' : Value} {l' : List Edg} (h : DSt w g a cap xs R n u l wr) (hu : EOwn wr (R + 1) u' l') : DSt w g a cap xs R n u' l' (wr.setCell ⟨R, 1, none⟩ u') := by
  have h1 := h.gl
  have h2 := h.hR
  have hg := grownBy_set wr R 1 u'
  refine ⟨h.drw.away hg (fun e => ?_) (fun x hx he e => ?_), grownBy_late h.grown hg (fun k hk => .inr ?_), h1, h2, h.code, ?_, ?_, hu.far hg (fun k hk e => ?_)⟩
  · simp at e; omega
  · have := h.code x hx he; simp at e; omega
  · simp at hk; omega
  · exact (hg.block _ (lt_of_row h.res) (fun e => by simp at e; omega)).trans h.res
  · exact heap_setCell_same wr R 1 _ 25 _ h.box
  · have := hu.lt k hk; simp at e; omega
theorem DSt.added {r : Ending} (h : DSt w g a cap xs R n u l wr) (H : AddEnd u l wr r w') : ∃ u' l', r = .returned u' ∧ l'.length ≤ l.length + 1 ∧ DSt w g a cap xs R n u l w' ∧ EOwn w' (R + 1) u' l' := by
  obtain ⟨u', l', rfl, h1, h2, hb⟩ := H
  refine ⟨u', l', rfl, h1, h.on hb, ?_⟩
  rcases h2 with ⟨rfl, rfl⟩ | h2
  · exact h.own.on hb
  · exact h2.down (by have := lt_of_row h.box; omega)
end

/-- An edge's box beside it. -/
def EBox (R : Nat) (u : Value) (Q : Nat) (f t : Int) (wr : World) : Prop := R < Q ∧ u.ownBlock ≠ some Q ∧ wr.heap[Q]? = some (.cells #[.int .i64 f, .int .i64 t] 36 (0, 0))

/-- A draw. -/
theorem l1Below_dst {w wr : World} {g : Nat} {a : Option Addr} {cap : Nat} {xs : List Int} {R : Nat} {n : Int} {u : Value} {l : List Edg} (m : Int) (h : DSt w g a cap xs R n u l wr) (hm : m ≤ 1000) :
    Calls Try.prog 29 #[.pointer (some ⟨g, 0, none⟩), .int .i64 m] wr fun e w' => ∃ x : Int, e = .returned (.int .i64 x) ∧ 0 ≤ x ∧ (0 < m → x < m) ∧ DSt w g a cap xs R n u l w' ∧ wr.grownBy w' (some g) :=
  (l1Below_drw g a cap xs m wr h.drw (by omega)).mono fun e w' ⟨x, h1, h2, h3, _, h5, h6⟩ => ⟨x, h1, h2, h3, h.draw h6 h5, h6⟩
theorem l1Once_dst {w wr : World} {g : Nat} {a : Option Addr} {cap : Nat} {xs : List Int} {R : Nat} {n : Int} {u : Value} {l : List Edg} (m : Int) (h : DSt w g a cap xs R n u l wr) (hm : m ≤ 1000) :
    Calls Try.prog 30 #[.pointer (some ⟨g, 0, none⟩), .int .i64 m] wr fun e w' => ∃ b : Bool, e = .returned (.bool b) ∧ DSt w g a cap xs R n u l w' ∧ wr.grownBy w' (some g) :=
  (l1Once_drw g a cap xs m wr h.drw (by omega)).mono fun e w' ⟨b, h1, h5, h6⟩ => ⟨b, h1, h.draw h6 h5, h6⟩

theorem EBox.draw {w wr w' : World} {g : Nat} {a : Option Addr} {cap : Nat} {xs : List Int} {R : Nat} {n : Int} {u : Value} {l : List Edg} {Q : Nat} {f t : Int} (h : EBox R u Q f t wr) (hd : DSt w g a cap xs R n u l wr) (hg : wr.grownBy w' (some g)) : EBox R u Q f t w' :=
  ⟨h.1, h.2.1, (hg.block _ (lt_of_row h.2.2) (fun e => by simp at e; have := hd.gl; have := hd.hR; have := h.1; omega)).trans h.2.2⟩
theorem dst_new {w wr : World} {g : Nat} {a : Option Addr} {cap : Nat} {xs : List Int} {R : Nat} {n : Int} {u : Value} {l : List Edg} (f t : Int) (h : DSt w g a cap xs R n u l wr) :
    DSt w g a cap xs R n u l (wr.alloc (.cells #[.int .i64 f, .int .i64 t] 36)) ∧ EBox R u wr.heap.size f t (wr.alloc (.cells #[.int .i64 f, .int .i64 t] 36)) :=
  ⟨h.on ((Below.refl _ _).alloc (Nat.le_refl _) _), lt_of_row h.box, fun e => by have := h.own.lt _ e; omega, (MapKept.heap_alloc wr _).1⟩
theorem dst_set {w wr : World} {g : Nat} {a : Option Addr} {cap : Nat} {xs : List Int} {R : Nat} {n : Int} {u : Value} {l : List Edg} {Q : Nat} {f t : Int} (f' t' : Int) (h : DSt w g a cap xs R n u l wr) (he : EBox R u Q f t wr) :
    DSt w g a cap xs R n u l (set2 wr Q 0 (.int .i64 f') (.int .i64 t')) ∧ EBox R u Q f' t' (set2 wr Q 0 (.int .i64 f') (.int .i64 t')) :=
  ⟨h.step (set2_grown _ _ _ _ _) (fun k hk => by simp at hk; subst hk; exact ⟨he.1, he.2.1⟩), he.1, he.2.1, set2_heap _ _ he.2.2⟩
theorem dst_N {w wr : World} {g : Nat} {a : Option Addr} {cap : Nat} {xs : List Int} {R : Nat} {n : Int} {u : Value} {l : List Edg} (h : DSt w g a cap xs R n u l wr) : wr.cell? ⟨R, 0, none⟩ = some (.int .i64 n) ∧ Hid (DSt w g a cap xs R n u l wr) := ⟨(row2 h.box).1, h⟩

/-- The box as the walk wants it. -/
def EFact (R : Nat) (u : Value) (Q : Nat) (f t : Int) (wr : World) : Prop := Hid (EBox R u Q f t wr) ∧ wr.cell? ⟨Q, 0, none⟩ = some (.int .i64 f) ∧ wr.cell? ⟨Q, 1, none⟩ = some (.int .i64 t) ∧ wr.frozen? ⟨Q, 0, none⟩ = false ∧ wr.frozen? ⟨Q, 1, none⟩ = false
theorem EBox.fact {R : Nat} {u : Value} {Q : Nat} {f t : Int} {wr : World} (h : EBox R u Q f t wr) : EFact R u Q f t wr := ⟨h, (row2 h.2.2).1, (row2 h.2.2).2.1, (row2 h.2.2).2.2 0, (row2 h.2.2).2.2 1⟩
theorem ebox_next {w wr w' : World} {g : Nat} {a : Option Addr} {cap : Nat} {xs : List Int} {R : Nat} {n : Int} {u : Value} {l : List Edg} {Q : Nat} {f t : Int} (hd : Hid (DSt w g a cap xs R n u l wr)) (h : Hid (EBox R u Q f t wr)) (hg : wr.grownBy w' (some g)) : EFact R u Q f t w' := (h.out.draw hd.out hg).fact
theorem ebox_first {w wr w' : World} {g : Nat} {a : Option Addr} {cap : Nat} {xs : List Int} {R : Nat} {n : Int} {u : Value} {l : List Edg} {f t : Int} (hd : Hid (DSt w g a cap xs R n u l wr)) (hg : (wr.alloc (.cells #[.int .i64 f, .int .i64 t] 36)).grownBy w' (some g)) : EFact R u wr.heap.size f t w' := ((dst_new f t hd.out).2.draw (dst_new f t hd.out).1 hg).fact

theorem ebox_next_k {w wr w' : World} {g : Nat} {a : Option Addr} {cap : Nat} {xs : List Int} {R : Nat} {n : Int} {u : Value} {l : List Edg} {Q : Nat} {f t : Int} {G : Prop} (hg : wr.grownBy w' (some g)) (h : Hid (EBox R u Q f t wr)) (hd : Hid (DSt w g a cap xs R n u l wr)) (k : EFact R u Q f t w' → G) : G := k (ebox_next hd h hg)
theorem ebox_first_k {w wr w' : World} {g : Nat} {a : Option Addr} {cap : Nat} {xs : List Int} {R : Nat} {n : Int} {u : Value} {l : List Edg} {f t : Int} {G : Prop} (hg : (wr.alloc (.cells #[.int .i64 f, .int .i64 t] 36)).grownBy w' (some g)) (hd : Hid (DSt w g a cap xs R n u l wr)) (k : EFact R u wr.heap.size f t w' → G) : G := k (ebox_first hd hg)

theorem ebox_first2_k {w wr w' : World} {g : Nat} {a : Option Addr} {cap : Nat} {xs : List Int} {R : Nat} {n : Int} {u : Value} {l : List Edg} {f t : Int} {G : Prop} (hg : (wr.alloc (.cells #[.int .i64 f, .int .i64 t] 36)).drew.grownBy w' (some g)) (hd : Hid (DSt w g a cap xs R n u l wr)) (k : EFact R u wr.heap.size f t w' → G) : G := ebox_first_k (wr := wr) (f := f) (t := t) (show (wr.alloc (.cells #[.int .i64 f, .int .i64 t] 36)).grownBy w' (some g) from ⟨hg.os, hg.tape, hg.output, hg.size, hg.block⟩) hd k

/-- What l9draw leaves. -/
def DrawEnd (g : Nat) (a : Option Addr) (cap : Nat) (xs : List Int) (w : World) (e : Ending) (w' : World) : Prop :=
  ∃ (n : Int) (u : Value) (l : List Edg), e = .returned (.agg #[.int .i64 n, u]) ∧ 0 ≤ n ∧ n < 9 ∧ l.length ≤ 14 ∧ EOwn w' w.heap.size u l ∧ Drw w' g a cap xs ∧ w.grownBy w' (some g)

end Go.Proofs.Ytcdonbepfmhdpaa
/-
  Draws of graphs: l9draw of the specification.
-/
namespace Go.Proofs.Ytcdonbepfmhdpaa
open Go.RowKit
set_option linter.unusedVariables false
set_option linter.unusedSimpArgs false

set_option maxHeartbeats 3200000 in
set_option maxRecDepth 100000 in
theorem l9draw_any (g : Nat) (a : Option Addr) (cap : Nat) (xs : List Int) (w : World) (h : Drw w g a cap xs) :
    Calls Try.prog 37 #[.pointer (some ⟨g, 0, none⟩)] w (DrawEnd g a cap xs w) := by
  have HD : Hid (∀ o : Obj, Drw (w.alloc o) g a cap xs) := fun o => h.grow ((Below.refl _ _).alloc (Nat.le_refl _) o)
  have HL : Hid (∀ o : Obj, Calls Try.prog 29 #[.pointer (some ⟨g, 0, none⟩), .int .i64 9] (w.alloc o) fun e w' => ∃ x : Int, e = .returned (.int .i64 x) ∧ 0 ≤ x ∧ x < 9 ∧ Drw w' g a cap xs ∧ (w.alloc o).grownBy w' (some g)) := fun o =>
    (l1Below_drw g a cap xs 9 _ (HD.out o) (by omega)).mono fun e w' ⟨x, h1, h2, h3, _, h5, h6⟩ => ⟨x, h1, h2, h3 (by omega), h5, h6⟩
  have HS : Hid (∀ (n : Int) w1, Drw w1 g a cap xs → (w.alloc (.cells #[.int .i64 0, .slice none 0 0] 25)).grownBy w1 (some g) → DSt w g a cap xs w1.heap.size n (.slice none 0 0) [] (w1.alloc (.cells #[.int .i64 n, .slice none 0 0] 25))) := by
    intro n w1 hd hg
    have hgl := h.lt
    have hz := hg.size
    simp at hz
    have hb : Below w1.heap.size w1 (w1.alloc (.cells #[.int .i64 n, .slice none 0 0] 25)) := (Below.refl _ _).alloc (Nat.le_refl _) _
    refine ⟨hd.grow hb, grownBy_late (grownBy_trans (World.grownBy_alloc w _ _) hg) (grownBy_of_below (r := none) hb) (by simp), hgl, by omega, h.1.lt, ?_, (MapKept.heap_alloc w1 _).1, EOwn.nil _ _⟩
    exact (hb.block _ (by omega)).trans ((hg.block _ (by simp) (by simp; omega)).trans (MapKept.heap_alloc w _).1)
  have Hend : Hid (∀ (n : Int) (u : Value) (l : List Edg) R wr, DSt w g a cap xs R n u l wr → 0 ≤ n → n < 9 → l.length ≤ 14 → DrawEnd g a cap xs w (.returned (.agg #[.int .i64 n, u])) (set2 wr w.heap.size 0 (.int .i64 n) u)) := by
    intro n u l R wr hd h0 h1 h2
    have hgl := hd.gl
    have hR := hd.hR
    have hg := set2_grown wr w.heap.size 0 (.int .i64 n) u
    refine ⟨n, u, l, rfl, h0, h1, h2, (hd.own.far hg (fun k hk e => ?_)).down (by omega), hd.drw.away hg (by simp; omega) (fun x hx he e => ?_), grownBy_late hd.grown hg (fun k hk => .inr (by simp at hk; omega))⟩
    · have := hd.own.lt k hk; simp at e; omega
    · have := hd.code x hx he; simp at e; omega
  clear h
  show Calls _ _ _ _ fun e w' => DrawEnd g a cap xs w e w'
  go_enter Try.func37, Try.ntmps37
  go_wp2_with fail
  refine (HL.out _).mono ?_
  rintro e w1 ⟨n, rfl, hn0, hn9, hd1, hg1⟩
  have HD1 := hide' (HS.out n w1 hd1 hg1)
  clear hd1 hg1 HL HS HD
  go_wp2_with fail
  refine (l1Below_dst 14 HD1.out (by omega)).mono ?_
  rintro e w2 ⟨m, rfl, hm0, hm14, hd2, -⟩
  have HD2 := hide' hd2
  have hm14 := hm14 (by omega)
  clear hd2 HD1
  obtain ⟨M, rfl⟩ : ∃ M : Nat, m = M := ⟨m.toNat, by omega⟩
  go_wp2_with fail
  go_loopw [5] (fun i wr => ∃ (k : Nat) (u : Value) (l : List Edg), i = .int .i64 k ∧ k ≤ M ∧ l.length ≤ k ∧ Hid (DSt w g a cap xs w1.heap.size n u l wr)) (fun i _ => M - (intOf i).toNat)
  case atStart => exact ⟨0, _, [], rfl, Nat.zero_le _, Nat.zero_le _, HD2.out⟩
  case round =>
    obtain ⟨k, u, l, rfl, hk, hl, hd⟩ := hrel
    obtain ⟨ua, uc, hu⟩ := hd.out.own.form
    subst hu
    obtain ⟨b0, b1, -⟩ := row2 hd.out.box
    obtain ⟨s0, s1, sf⟩ := row2 hd.out.res
    have sf0 := sf 0
    have sf1 := sf 1
    clear sf
    have Hrow : Hid (_ ∧ _ ∧ _) := row2 (set2_heap (j := 0) (.int .i64 n) (.slice ua l.length uc) hd.out.res)
    have HE := hide' (fun hl14 => Hend.out n _ l w1.heap.size wr hd.out hn0 hn9 hl14)
    generalize hR : w1.heap.size = R at *
    clear HD2 hR
    by_cases hlt : (k : Int) < (M : Int)
    · by_cases hn : 0 < n
      · go_wp2_with fail
        go_cut [6] from 22 to 30 (fun s6 wx => ∃ Q f t, s6 = .pointer (some ⟨Q, 0, none⟩) ∧ Hid (DSt w g a cap xs R n (.slice ua l.length uc) l wx) ∧ Hid (EBox R (.slice ua l.length uc) Q f t wx))
        case first =>
          have HDd : Hid (DSt w g a cap xs R n (.slice ua l.length uc) l wr.drew) := hd.out.on (Below.refl _ _).drew
          go_region_held3 (fun wx => wx.cell? ⟨R, 0, none⟩ = some (.int .i64 n) ∧ Hid (DSt w g a cap xs R n (.slice ua l.length uc) l wx)) (first
            | exact dst_N (Hid.out (by assumption))
            | exact dst_N (dst_set _ _ (Hid.out (by assumption)) (Hid.out (by assumption))).1
            | exact dst_N (DSt.on (Hid.out (by assumption)) ((Below.refl _ _).alloc (Nat.le_refl _) _))) (first
            | (go_at_call 29; refine (l1Below_dst n (Hid.out (by first | assumption | exact And.right (by assumption))) (by omega)).mono ?_; rintro e w3 ⟨f, rfl, -, -, hd3, hg3⟩; have HD3 := hide' hd3; have hb3 := (dst_N hd3).1; first | (apply ebox_first2_k (w := w) (g := g) (a := a) (cap := cap) (xs := xs) (n := n) (l := l) hg3; assumption; rintro ⟨E3, e0, e1, e2, e3⟩) | (apply ebox_first_k (w := w) (g := g) (a := a) (cap := cap) (xs := xs) (n := n) (l := l) hg3; assumption; rintro ⟨E3, e0, e1, e2, e3⟩) | (apply ebox_next_k (w := w) (g := g) (a := a) (cap := cap) (xs := xs) (n := n) (l := l) hg3; assumption; assumption; rintro ⟨E3, e0, e1, e2, e3⟩) | skip; clear hd3 hg3)
            | fail)
          all_goals
            go_wp2_with fail
            go_meet
            first
              | exact ⟨_, _, _, rfl, (dst_new _ _ HD3.out).1, (dst_new _ _ HD3.out).2⟩
              | exact ⟨_, _, _, rfl, (dst_set _ _ HD3.out E3.out).1, (dst_set _ _ HD3.out E3.out).2⟩
        case rest =>
        obtain ⟨Q, f, t, rfl, hdc, hec⟩ := hcut
        obtain ⟨-, e0, e1, e2, e3⟩ := hec.out.fact
        clear b0 b1 s0 s1 sf0 sf1 hd Hrow HE
        obtain ⟨b0, b1, -⟩ := row2 hdc.out.box
        by_cases hgt : t < f
        · go_wp2_with fail
          refine (l1Once_dst 9 hdc.out (by omega)).mono ?_
          rintro e w4 ⟨b, rfl, hd4, hg4⟩
          obtain ⟨E4, x0, x1, x2, x3⟩ := ebox_next hdc hec hg4
          obtain ⟨d0, d1, -⟩ := row2 hd4.box
          have HD4 := hide' hd4
          clear hd4 hg4 e0 e1 e2 e3 b0 b1
          cases b with
          | true =>
            have hft' : (f == t) = false := by simp; omega
            go_wp2_with fail
            refine (l9add_any (R + 1) _ l f t _ HD4.out.own (by omega)).mono ?_
            intro r w6 hadd
            obtain ⟨u', l', rfl, hl', hd6, hO6⟩ := HD4.out.added hadd
            obtain ⟨ua', uc', hu'⟩ := hO6.form
            subst hu'
            obtain ⟨y0, y1, yf⟩ := row2 hd6.box
            have yf1 := yf 1
            have HP := hide' (hd6.put hO6)
            clear yf hd6 hO6 hadd
            go_wp2
            go_roundw
            case rel => exact ⟨k + 1, _, l', by go_num, by omega, by omega, HP.out⟩
            case measure => simp [intOf]; omega
          | false =>
            have hft' : (t == f) = false := by simp; omega
            have HS4 := hide' (dst_set t f HD4.out E4.out)
            obtain ⟨-, q0, q1, -, -⟩ := HS4.out.2.fact
            obtain ⟨r0, r1, -⟩ := row2 HS4.out.1.box
            simp only [set2, Nat.zero_add] at q0 q1 r0 r1
            have HD5 := hide' HS4.out.1
            clear d0 d1 HD4 E4
            go_wp2_with fail
            refine (l9add_any (R + 1) _ l t f _ HD5.out.own (by omega)).mono ?_
            intro r w6 hadd
            obtain ⟨u', l', rfl, hl', hd6, hO6⟩ := HD5.out.added hadd
            obtain ⟨ua', uc', hu'⟩ := hO6.form
            subst hu'
            obtain ⟨y0, y1, yf⟩ := row2 hd6.box
            have yf1 := yf 1
            have HP := hide' (hd6.put hO6)
            clear yf hd6 hO6 hadd
            go_wp2
            go_roundw
            case rel => exact ⟨k + 1, _, l', by go_num, by omega, by omega, HP.out⟩
            case measure => simp [intOf]; omega
        · by_cases hft : f = t
          · subst hft
            go_wp2_with fail
            refine (l1Once_dst 9 hdc.out (by omega)).mono ?_
            rintro e w4 ⟨b, rfl, hd4, hg4⟩
            obtain ⟨E4, x0, x1, x2, x3⟩ := ebox_next hdc hec hg4
            obtain ⟨d0, d1, -⟩ := row2 hd4.box
            have HDx := hide' hd4
            clear hd4 hg4 e0 e1 e2 e3 b0 b1
            cases b with
            | true =>
              go_wp2_with fail
              refine (l9add_any (R + 1) _ l f f _ HDx.out.own (by omega)).mono ?_
              intro r w6 hadd
              obtain ⟨u', l', rfl, hl', hd6, hO6⟩ := HDx.out.added hadd
              obtain ⟨ua', uc', hu'⟩ := hO6.form
              subst hu'
              obtain ⟨y0, y1, yf⟩ := row2 hd6.box
              have yf1 := yf 1
              have HP := hide' (hd6.put hO6)
              clear yf hd6 hO6 hadd
              go_wp2
              go_roundw
              case rel => exact ⟨k + 1, _, l', by go_num, by omega, by omega, HP.out⟩
              case measure => simp [intOf]; omega
            | false =>
              go_wp2
              go_roundw
              case rel => exact ⟨k + 1, _, l, by go_num, by omega, by omega, HDx⟩
              case measure => simp [intOf]; omega
          · have hft' : (f == t) = false := by simpa using hft
            go_wp2_with fail
            refine (l9add_any (R + 1) _ l f t _ hdc.out.own (by omega)).mono ?_
            intro r w6 hadd
            obtain ⟨u', l', rfl, hl', hd6, hO6⟩ := hdc.out.added hadd
            obtain ⟨ua', uc', hu'⟩ := hO6.form
            subst hu'
            obtain ⟨y0, y1, yf⟩ := row2 hd6.box
            have yf1 := yf 1
            have HP := hide' (hd6.put hO6)
            clear yf hd6 hO6 hadd
            go_wp2
            go_roundw
            case rel => exact ⟨k + 1, _, l', by go_num, by omega, by omega, HP.out⟩
            case measure => simp [intOf]; omega
      · go_wp2
        obtain ⟨z0, z1, _⟩ := Hrow.out
        simp only [set2, Nat.zero_add] at z0 z1
        refine bodyPost_ret (v := .agg #[.int .i64 n, .slice ua l.length uc]) (by simp [results, Try.results37, go_sem, z0, z1]) rfl ?_
        exact HE.out (by omega)
    · go_wp2
      obtain ⟨z0, z1, _⟩ := Hrow.out
      simp only [set2, Nat.zero_add] at z0 z1
      refine bodyPost_ret (v := .agg #[.int .i64 n, .slice ua l.length uc]) (by simp [results, Try.results37, go_sem, z0, z1]) rfl ?_
      exact HE.out (by omega)
end Go.Proofs.Ytcdonbepfmhdpaa
