/-
  Texts that a law leans on, one behind the other; no statement is proved here.
-/
import Derived.Test.YtcdonbepfmhdpaaPk1
import Derived.Deep.RegionLaw
import Derived.Deep.AppendLies
/-
  Draws of graphs: what stands while l9bent of the specification bends a graph.
-/
namespace Go.Proofs.Ytcdonbepfmhdpaa
open Go.RowKit
set_option linter.unusedVariables false
set_option linter.unusedSimpArgs false

/-- The cursor, the result's box, the graph's box R. -/
structure BB (w : World) (g : Nat) (a : Option Addr) (cap : Nat) (xs : List Int) (R : Nat) (n : Int) (u : Value) (wr : World) : Prop where
  drw : Drw wr g a cap xs
  grown : w.grownBy wr (some g)
  gl : g < w.heap.size
  hR : w.heap.size < R
  code : ∀ x, a = some x → xs ≠ [] → x.block < w.heap.size
  res : wr.heap[w.heap.size]? = some (.cells #[.int .i64 0, .slice none 0 0] 25 (0, 0))
  box : wr.heap[R]? = some (.cells #[.int .i64 n, u] 25 (0, 0))

/-- A row of edges is no graph's box. -/
theorem EOwn.apart {w : World} {base R : Nat} {v : Value} {l : List Edg} {cs : Array Value} (h : EOwn w base v l) (hb : w.heap[R]? = some (.cells cs 25 (0, 0))) : v.ownBlock ≠ some R := by
  obtain ⟨h1, ⟨rfl, h2⟩ | ⟨g, cap, cur, rfl, hg, hr, _⟩⟩ := h
  · simp [Value.ownBlock]
  · simp [Value.ownBlock]
    rintro rfl
    rw [hr] at hb
    simp at hb

section
variable {w wr w' : World} {g : Nat} {a : Option Addr} {cap : Nat} {xs : List Int} {R : Nat} {n : Int} {u : Value}
theorem BB.step {r : Option Nat} (h : BB w g a cap xs R n u wr) (hg : wr.grownBy w' r) (hr : ∀ k, r = some k → w.heap.size < k ∧ k ≠ R) : BB w g a cap xs R n u w' := by
  have h1 := h.gl
  have h2 := h.hR
  refine ⟨h.drw.away hg (fun e => ?_) (fun x hx he e => ?_), grownBy_late h.grown hg (fun k hk => .inr ?_), h1, h2, h.code, ?_, ?_⟩
  · have := hr _ e; omega
  · have := hr _ e; have := h.code x hx he; omega
  · have := hr _ hk; omega
  · exact (hg.block _ (lt_of_row h.res) (fun e => by have := hr _ e.symm; omega)).trans h.res
  · exact (hg.block _ (lt_of_row h.box) (fun e => by have := hr _ e.symm; omega)).trans h.box
theorem BB.draw (h : BB w g a cap xs R n u wr) (hg : wr.grownBy w' (some g)) (hd : Drw w' g a cap xs) : BB w g a cap xs R n u w' := by
  have h1 := h.gl
  have h2 := h.hR
  refine ⟨hd, grownBy_late h.grown hg (fun k hk => .inl (by simpa using hk.symm)), h1, h2, h.code, ?_, ?_⟩
  · exact (hg.block _ (lt_of_row h.res) (fun e => by simp at e; omega)).trans h.res
  · exact (hg.block _ (lt_of_row h.box) (fun e => by simp at e; omega)).trans h.box
theorem BB.wrote {j : Nat} {v : Value} (h : BB w g a cap xs R n u wr) {n' : Int} {u' : Value} (hb : (wr.setCell ⟨R, j, none⟩ v).heap[R]? = some (.cells #[.int .i64 n', u'] 25 (0, 0))) : BB w g a cap xs R n' u' (wr.setCell ⟨R, j, none⟩ v) := by
  have h1 := h.gl
  have h2 := h.hR
  have hg := grownBy_set wr R j v
  refine ⟨h.drw.away hg (fun e => ?_) (fun x hx he e => ?_), grownBy_late h.grown hg (fun k hk => .inr ?_), h1, h2, h.code, ?_, hb⟩
  · simp at e; omega
  · have := h.code x hx he; simp at e; omega
  · simp at hk; omega
  · exact (hg.block _ (lt_of_row h.res) (fun e => by simp at e; omega)).trans h.res
end

/-- And the edges. -/
def Bnt (w : World) (g : Nat) (a : Option Addr) (cap : Nat) (xs : List Int) (R : Nat) (n : Int) (u : Value) (l : List Edg) (wr : World) : Prop := BB w g a cap xs R n u wr ∧ EOwn wr (w.heap.size + 1) u l

section
variable {w wr w' : World} {g : Nat} {a : Option Addr} {cap : Nat} {xs : List Int} {R : Nat} {n : Int} {u : Value} {l : List Edg}
theorem Bnt.on (h : Bnt w g a cap xs R n u l wr) (hb : Below wr.heap.size wr w') : Bnt w g a cap xs R n u l w' := ⟨h.1.step (r := none) (grownBy_of_below hb) (by simp), h.2.on hb⟩
theorem Bnt.draw (h : Bnt w g a cap xs R n u l wr) (hg : wr.grownBy w' (some g)) (hd : Drw w' g a cap xs) : Bnt w g a cap xs R n u l w' := ⟨h.1.draw hg hd, h.2.far hg (fun k hk e => by have := h.2.lt k hk; have := h.1.gl; simp at e; omega)⟩
theorem Bnt.setN (m : Int) (h : Bnt w g a cap xs R n u l wr) : Bnt w g a cap xs R m u l (wr.setCell ⟨R, 0, none⟩ (.int .i64 m)) :=
  ⟨h.1.wrote (heap_setCell_same wr R 0 _ 25 _ h.1.box), h.2.far (grownBy_set wr R 0 _) (fun k hk e => by simp at e; subst e; exact h.2.apart h.1.box hk)⟩
theorem Bnt.app {v : Value} {l' : List Edg} (h : Bnt w g a cap xs R n u l wr) (hO : EOwn w' (w.heap.size + 1) v l') (hg : wr.grownBy w' u.ownBlock) :
    (w'.cell? ⟨R, 1, none⟩ = some u ∧ w'.frozen? ⟨R, 1, none⟩ = false) ∧ Bnt w g a cap xs R n v l' (w'.setCell ⟨R, 1, none⟩ v) := by
  have hB : BB w g a cap xs R n u w' := h.1.step hg (fun k hk => ⟨(h.2.lt k hk).1, fun e => h.2.apart h.1.box (e ▸ hk)⟩)
  refine ⟨⟨(row2 hB.box).2.1, (row2 hB.box).2.2 1⟩, hB.wrote (heap_setCell_same w' R 1 _ 25 _ hB.box), hO.far (grownBy_set w' R 1 _) (fun k hk e => ?_)⟩
  simp at e
  subst e
  exact hO.apart hB.box hk
theorem bnt_at (h : Bnt w g a cap xs R n u l wr) : wr.cell? ⟨R, 0, none⟩ = some (.int .i64 n) ∧ wr.cell? ⟨R, 1, none⟩ = some u ∧ wr.frozen? ⟨R, 0, none⟩ = false ∧ wr.frozen? ⟨R, 1, none⟩ = false := ⟨(row2 h.1.box).1, (row2 h.1.box).2.1, (row2 h.1.box).2.2 0, (row2 h.1.box).2.2 1⟩
theorem l1Below_bst (m : Int) (h : Bnt w g a cap xs R n u l wr) (hm : m ≤ 1000) :
    Calls Try.prog 29 #[.pointer (some ⟨g, 0, none⟩), .int .i64 m] wr fun e w' => ∃ x : Int, e = .returned (.int .i64 x) ∧ 0 ≤ x ∧ (0 < m → x < m) ∧ Bnt w g a cap xs R n u l w' :=
  (l1Below_drw g a cap xs m wr h.1.drw (by omega)).mono fun e w' ⟨x, h1, h2, h3, _, h5, h6⟩ => ⟨x, h1, h2, h3, h.draw h6 h5⟩
theorem l1Once_bst (m : Int) (h : Bnt w g a cap xs R n u l wr) (hm : m ≤ 1000) :
    Calls Try.prog 30 #[.pointer (some ⟨g, 0, none⟩), .int .i64 m] wr fun e w' => ∃ b : Bool, e = .returned (.bool b) ∧ Bnt w g a cap xs R n u l w' :=
  (l1Once_drw g a cap xs m wr h.1.drw (by omega)).mono fun e w' ⟨b, h1, h5, h6⟩ => ⟨b, h1, h.draw h6 h5⟩
end

set_option maxHeartbeats 400000 in
theorem l1PickInt_p (P : Int → Prop) (g b n lc : Nat) (a : Option Addr) (cap : Nat) (cs : List Int) (w : World) (h : Drw w g a cap cs) (hn : 0 < n) (hn2 : n ≤ 1000) (hbg : b ≠ g) (hb : b < w.heap.size) (hc : ∀ k, k < n → ∃ z : Int, w.cell? ⟨b, k, none⟩ = some (.int .i64 z) ∧ P z) :
    Calls Try.prog 38 #[.pointer (some ⟨g, 0, none⟩), .slice (some ⟨b, 0, none⟩) n lc] w fun e w' => ∃ z : Int, e = .returned (.int .i64 z) ∧ P z ∧ Drw w' g a cap cs ∧ w.grownBy w' (some g) := by
  have HL := hide' (l1Below_drw g a cap cs (n : Int) w h (by omega))
  clear h
  go_enter Try.func38, Try.ntmps38
  go_wp2_with fail
  refine HL.out.mono ?_
  rintro e w1 ⟨x, rfl, h0, h1, _, hd, hg⟩
  obtain ⟨k, rfl⟩ : ∃ k : Nat, x = k := ⟨x.toNat, by omega⟩
  have hk : k < n := by have := h1 (by omega); omega
  obtain ⟨z, hz, hP⟩ := hc k hk
  have HP := hide' hP
  have hz1 : w1.cell? ⟨b, k, none⟩ = some (.int .i64 z) := (World.cell?_of_block (hg.block b hb (by simp; omega))).trans hz
  have hk' : (k : Int) < (n : Int) := by omega
  clear h1 HL hc hP
  go_wp2
  go_ret
  exact ⟨_, rfl, HP.out, hd, hg⟩

/-- 'append(out, E{..})' at a step of a region that draws its order. -/
theorem step_append_eseg {w : World} {ops : Array Oper} {o : Oper} {a : Act} {K : Act → World → Prop} {Q : Exit → Act → World → Prop} {E : Prop} (hgd : o.guard = none) (s x : Operand)
    (ho : o.op = .call { callee := .builtin .append, args := #[s, x], argTypes := #[23, 23] })
    (base : Nat) (v : Value) (xs ys : List Edg) (R : Nat → Prop) (ad : Addr) (m c : Nat) (hs : a.eval s = v) (hB : EOwn w base v xs) (hx : a.eval x = .slice (some ad) m c) (hS : ESeg R w (.slice (some ad) m c) ys)
    (hlen : xs.length + ys.length ≤ 1000000) (hbase : base ≤ w.heap.size)
    (h : ∀ v' w', EOwn w' base v' (xs ++ ys) → w.grownBy w' v.ownBlock → K (a.put o.dst v') w') :
    if Region.wanted o (yielded ops a.tmps) = true then Oper.wp Try.prog o a w K Q else E := by
  have hw : Region.wanted o (yielded ops a.tmps) = true := by simp [Region.wanted, hgd]
  rw [if_pos hw]
  obtain ⟨iE, hiE, hz0, hz1, hz2⟩ := info_parts infoE
  obtain ⟨ad', cap, e, hlc, hcm, hnone, hcell⟩ := hS
  simp only [Value.slice.injEq] at e
  obtain ⟨rfl, rfl, rfl⟩ := e
  refine wp_append_own w s x 23 ho base 36 iE _ 2 16 Try.underlying23 hiE hz0 hz1 hz2 rfl (by decide) v xs.length (eC xs) hs hB ad ys.length c (eC ys) hx (eC_len ys) ?_ eC_one (by unfold maxLen; omega) (by omega) hbase ?_
  · intro j u hu
    rcases hcell with h0 | ⟨b, off, h1, _, h2⟩
    · subst h0; simp [eC] at hu
    · simp at h1
      subst h1
      obtain ⟨i, hi, ⟨rfl, rfl⟩ | ⟨rfl, rfl⟩⟩ := eC_get hu
      · rw [Addr.add_lit]
        exact (h2 i hi).1
      · rw [Addr.add_lit, ← Nat.add_assoc]
        exact (h2 i hi).2
  · intro v' w' hown hg _
    refine h v' w' ?_ hg
    unfold EOwn
    rw [eC_append, List.length_append]
    exact hown

/-- What l9bent leaves. -/
def BentEnd (g : Nat) (a : Option Addr) (cap : Nat) (xs : List Int) (w : World) (e : Ending) (w' : World) : Prop :=
  ∃ (n : Int) (u : Value) (l : List Edg), e = .returned (.agg #[.int .i64 n, u]) ∧ -1 ≤ n ∧ n ≤ 21 ∧ l.length ≤ 15 ∧ EOwn w' w.heap.size u l ∧ Drw w' g a cap xs ∧ w.grownBy w' (some g)

theorem bnt_end {w wr : World} {g : Nat} {a : Option Addr} {cap : Nat} {xs : List Int} {R : Nat} {n : Int} {u : Value} {l : List Edg} (hd : Bnt w g a cap xs R n u l wr) (h0 : -1 ≤ n) (h1 : n ≤ 21) (h2 : l.length ≤ 15) :
    (((wr.cell? ⟨w.heap.size, 0, none⟩ = some (.int .i64 0) ∧ wr.cell? ⟨w.heap.size, 1, none⟩ = some (.slice none 0 0)) ∧ wr.frozen? ⟨w.heap.size, 0, none⟩ = false ∧ wr.frozen? ⟨w.heap.size, 1, none⟩ = false) ∧
      (set2 wr w.heap.size 0 (.int .i64 n) u).cell? ⟨w.heap.size, 0, none⟩ = some (.int .i64 n) ∧ (set2 wr w.heap.size 0 (.int .i64 n) u).cell? ⟨w.heap.size, 1, none⟩ = some u) ∧ BentEnd g a cap xs w (.returned (.agg #[.int .i64 n, u])) (set2 wr w.heap.size 0 (.int .i64 n) u) := by
  have hgl := hd.1.gl
  have hR := hd.1.hR
  have hg := set2_grown wr w.heap.size 0 (.int .i64 n) u
  obtain ⟨r0, r1, rf⟩ := row2 hd.1.res
  obtain ⟨z0, z1, _⟩ := row2 (set2_heap (j := 0) (.int .i64 n) u hd.1.res)
  refine ⟨⟨⟨⟨r0, r1⟩, rf 0, rf 1⟩, z0, z1⟩, n, u, l, rfl, h0, h1, h2, (hd.2.far hg (fun k hk e => ?_)).down (by omega), hd.1.drw.away hg (by simp; omega) (fun x hx he e => ?_), grownBy_late hd.1.grown hg (fun k hk => .inr (by simp at hk; omega))⟩
  · have := hd.2.lt k hk; simp at e; omega
  · have := hd.1.code x hx he; simp at e; omega
end Go.Proofs.Ytcdonbepfmhdpaa
/-
  Draws of graphs: l9bent of the specification.
-/
namespace Go.Proofs.Ytcdonbepfmhdpaa
open Go.RowKit
set_option linter.unusedVariables false
set_option linter.unusedSimpArgs false

set_option maxHeartbeats 1600000 in
set_option maxRecDepth 100000 in
theorem l9bent_any (g : Nat) (a : Option Addr) (cap : Nat) (xs : List Int) (w : World) (h : Drw w g a cap xs) :
    Calls Try.prog 18 #[.pointer (some ⟨g, 0, none⟩)] w (BentEnd g a cap xs w) := by
  have HL : Hid (∀ o : Obj, Calls Try.prog 37 #[.pointer (some ⟨g, 0, none⟩)] (w.alloc o) (DrawEnd g a cap xs (w.alloc o))) := fun o => l9draw_any g a cap xs _ (h.grow ((Below.refl _ _).alloc (Nat.le_refl _) o))
  have HS : Hid (∀ (n : Int) (u : Value) (l : List Edg) w1, EOwn w1 (w.heap.size + 1) u l → Drw w1 g a cap xs → (w.alloc (.cells #[.int .i64 0, .slice none 0 0] 25)).grownBy w1 (some g) → Bnt w g a cap xs w1.heap.size n u l (w1.alloc (.cells #[.int .i64 n, u] 25))) := by
    intro n u l w1 hO hd hg
    have hgl := h.lt
    have hz := hg.size
    simp at hz
    have hb : Below w1.heap.size w1 (w1.alloc (.cells #[.int .i64 n, u] 25)) := (Below.refl _ _).alloc (Nat.le_refl _) _
    refine ⟨⟨hd.grow hb, grownBy_late (grownBy_trans (World.grownBy_alloc w _ _) hg) (grownBy_of_below (r := none) hb) (by simp), hgl, by omega, h.1.lt, ?_, (MapKept.heap_alloc w1 _).1⟩, hO.on hb⟩
    exact (hb.block _ (by omega)).trans ((hg.block _ (by simp) (by simp; omega)).trans (MapKept.heap_alloc w _).1)
  clear h
  show Calls _ _ _ _ fun e w' => BentEnd g a cap xs w e w'
  go_enter Try.func18, Try.ntmps18
  go_wp2_with fail
  refine (HL.out _).mono ?_
  rintro e w1 ⟨n, u, l, rfl, hn0, hn9, hl, hO1, hd1, hg1⟩
  have HD1 := hide' (HS.out n u l w1 (by simpa using hO1) hd1 hg1)
  obtain ⟨ua, uc, hu⟩ := hO1.form
  subst hu
  clear hO1 hd1 hg1 HL HS
  go_wp2_with fail
  refine (l1Once_bst 8 HD1.out (by omega)).mono ?_
  rintro e w2 ⟨b, rfl, hd2⟩
  have HD2 := hide' hd2
  clear hd2 HD1
  generalize hR : w1.heap.size = R at *
  clear hR
  cases b with
  | false =>
    have HE := hide' (bnt_end HD2.out (by omega) (by omega) (by omega))
    obtain ⟨⟨⟨s0, s1⟩, sf0, sf1⟩, z0, z1⟩ := HE.out.1
    obtain ⟨b0, b1, -, -⟩ := bnt_at HD2.out
    simp only [set2, Nat.zero_add] at z0 z1
    go_wp2
    refine bodyPost_ret (v := .agg #[.int .i64 n, .slice ua l.length uc]) (by simp [results, Try.results18, go_sem, z0, z1]) rfl ?_
    exact HE.out.2
  | true =>
    go_wp2_with fail
    refine (l1Below_bst 3 HD2.out (by omega)).mono ?_
    rintro e w3 ⟨c, rfl, hc0, hc3, hd3⟩
    have hc3 := hc3 (by omega)
    have HD3 := hide' hd3
    clear hd3 HD2
    have hcc : c = 0 ∨ c = 1 ∨ c = 2 := by omega
    clear hc0 hc3
    rcases hcc with rfl | rfl | rfl
    · have HP : Hid (Calls Try.prog 38 #[.pointer (some ⟨g, 0, none⟩), .slice (some ⟨w3.heap.size, 0, none⟩) 4 4] (w3.alloc (.cells #[.int .i64 (-1), .int .i64 0, .int .i64 20, .int .i64 21] 3)) fun e w' => ∃ z : Int, e = .returned (.int .i64 z) ∧ (-1 ≤ z ∧ z ≤ 21) ∧ Bnt w g a cap xs R n (.slice ua l.length uc) l w') := by
        have hb := (Below.refl w3.heap.size w3).alloc (Nat.le_refl _) (.cells #[.int .i64 (-1), .int .i64 0, .int .i64 20, .int .i64 21] 3)
        have hs := HD3.out.on hb
        have hrow := (MapKept.heap_alloc w3 (.cells #[.int .i64 (-1), .int .i64 0, .int .i64 20, .int .i64 21] 3)).1
        refine (l1PickInt_p (fun z => -1 ≤ z ∧ z ≤ 21) g w3.heap.size 4 4 a cap xs _ hs.1.drw (by omega) (by omega) (by have := HD3.out.1.drw.lt; omega) (by simp) ?_).mono ?_
        · intro k hk
          rw [cell_of_row _ _ k _ 3 (0, 0) hrow]
          match k, hk with
          | 0, _ => exact ⟨-1, rfl, by omega, by omega⟩
          | 1, _ => exact ⟨0, rfl, by omega, by omega⟩
          | 2, _ => exact ⟨20, rfl, by omega, by omega⟩
          | 3, _ => exact ⟨21, rfl, by omega, by omega⟩
        · rintro e w' ⟨z, rfl, hz, hd, hg⟩
          exact ⟨z, rfl, hz, hs.draw hg hd⟩
      clear HD3
      go_wp2_with fail
      refine HP.out.mono ?_
      rintro e w4 ⟨z, rfl, ⟨hz0, hz1⟩, hd4⟩
      obtain ⟨b0, b1, bf0, bf1⟩ := bnt_at hd4
      have HD5 := hide' (hd4.setN z)
      clear hd4 HP
      have HE := hide' (bnt_end HD5.out hz0 hz1 (by omega))
      obtain ⟨⟨⟨s0, s1⟩, sf0, sf1⟩, z0, z1⟩ := HE.out.1
      obtain ⟨c0, c1, -, -⟩ := bnt_at HD5.out
      simp only [set2, Nat.zero_add] at z0 z1
      go_wp2
      refine bodyPost_ret (v := .agg #[.int .i64 z, .slice ua l.length uc]) (by simp [results, Try.results18, go_sem, z0, z1]) rfl ?_
      exact HE.out.2
    · have HD3d : Hid (Bnt w g a cap xs R n (.slice ua l.length uc) l w3.drew) := HD3.out.on (Below.refl _ _).drew
      obtain ⟨b0, b1, bf0, bf1⟩ := bnt_at HD3.out
      clear HD3
      go_wp2_with fail
      go_region_law (first
        | (refine step_append_eseg (by rfl) (.tmp 25) (.tmp 31) (by rfl) (w.heap.size + 1) (.slice ua l.length uc) l [(_, _)] (fun _ => True) _ 1 1 (by rfl) (HD4.out.on ((Below.refl _ _).alloc (Nat.le_refl _) _)).2 (by rfl) (eseg_new w4 _ _) (by simp; omega) (by simp; omega) ?_; intro v5 w5 hO5 hg5; obtain ⟨l5, hl5, hO5⟩ : ∃ l5, l5.length ≤ 15 ∧ EOwn w5 (w.heap.size + 1) v5 l5 := ⟨_, by simp; omega, hO5⟩; have HL5 := hide' hl5; obtain ⟨ua5, uc5, hv5⟩ := hO5.form; subst hv5; obtain ⟨⟨p1, p2⟩, hq⟩ := (HD4.out.on ((Below.refl _ _).alloc (Nat.le_refl _) _)).app hO5 hg5; have HE := hide' (bnt_end hq (by omega) (by omega) HL5.out); obtain ⟨⟨⟨s0, s1⟩, sf0, sf1⟩, z0, z1⟩ := HE.out.1; obtain ⟨c0, c1, -, -⟩ := bnt_at hq; simp only [set2, Nat.zero_add] at z0 z1; clear hq hO5 hg5 hl5 b0 b1 bf0 bf1)
        | (go_simp; go_at_call 29; refine (l1Below_bst 9 (Hid.out (by assumption)) (by omega)).mono ?_; rintro e w4 ⟨f, rfl, -, -, hd4⟩; have HD4 := hide' hd4; have hsz4 : w.heap.size + 1 ≤ w4.heap.size := (by have := hd4.1.hR; have := lt_of_row hd4.1.box; omega); obtain ⟨b0, b1, bf0, bf1⟩ := bnt_at hd4; have hc4 : ∀ o, (w4.alloc o).cell? ⟨R, 1, none⟩ = some (.slice ua l.length uc) := fun o => (bnt_at (hd4.on ((Below.refl _ _).alloc (Nat.le_refl _) o))).2.1; clear hd4))
      all_goals
        go_wp2
        refine bodyPost_ret (v := .agg #[.int .i64 n, .slice ua5 l5.length uc5]) (by simp [results, Try.results18, go_sem, z0, z1]) rfl ?_
        exact HE.out.2
    · obtain ⟨b0, b1, bf0, bf1⟩ := bnt_at HD3.out
      have hsz3 : w.heap.size + 1 ≤ w3.heap.size := by have := HD3.out.1.hR; have := lt_of_row HD3.out.1.box; omega
      have HA : Hid (∀ o, Bnt w g a cap xs R n (.slice ua l.length uc) l (w3.alloc o)) := fun o => HD3.out.on ((Below.refl _ _).alloc (Nat.le_refl _) o)
      clear HD3
      go_wp2_with (at_builtin; refine wpList_append_eseg rfl (.tmp 11) (.tmp 13) (by rfl) (w.heap.size + 1) (.slice ua l.length uc) (.slice (some ⟨w3.heap.size, 0, none⟩) 1 1) l [(-1, 0)] (fun _ => True) (by rfl) (HA.out _).2 (by rfl) (eseg_new w3 (-1) 0) (by simp; omega) (by simp; omega) ?_; intro v5 w5 hO5 hg5; obtain ⟨l5, hl5, hO5⟩ : ∃ l5, l5.length ≤ 15 ∧ EOwn w5 (w.heap.size + 1) v5 l5 := ⟨_, by simp; omega, hO5⟩; have HL5 := hide' hl5; obtain ⟨ua5, uc5, hv5⟩ := hO5.form; subst hv5; obtain ⟨⟨p1, p2⟩, hq⟩ := (HA.out _).app hO5 hg5; have HE := hide' (bnt_end hq (by omega) (by omega) HL5.out); obtain ⟨⟨⟨s0, s1⟩, sf0, sf1⟩, z0, z1⟩ := HE.out.1; obtain ⟨c0, c1, -, -⟩ := bnt_at hq; simp only [set2, Nat.zero_add] at z0 z1; clear hq hO5 hg5 hl5 b0 b1 bf0 bf1)
      all_goals
        go_wp2
        refine bodyPost_ret (v := .agg #[.int .i64 n, .slice ua5 l5.length uc5]) (by simp [results, Try.results18, go_sem, z0, z1]) rfl ?_
        exact HE.out.2
end Go.Proofs.Ytcdonbepfmhdpaa
/-
  Draws of graphs: what stands while DrawReach of the specification draws.
-/
namespace Go.Proofs.Ytcdonbepfmhdpaa
open Go.RowKit
set_option linter.unusedVariables false
set_option linter.unusedSimpArgs false

theorem EOwn.other {w : World} {base R : Nat} {v : Value} {l : List Edg} {cs : Array Value} {T : TypeId} {fr : Nat × Nat} (h : EOwn w base v l) (hb : w.heap[R]? = some (.cells cs T fr)) (hT : T ≠ 36) : v.ownBlock ≠ some R := by
  obtain ⟨h1, ⟨rfl, h2⟩ | ⟨g, cap, cur, rfl, hg, hr, _⟩⟩ := h
  · simp [Value.ownBlock]
  · simp [Value.ownBlock]
    rintro rfl
    rw [hr] at hb
    simp at hb
    exact hT hb.2.1.symm
theorem NOwn.other {w : World} {base R : Nat} {v : Value} {l : List Int} {cs : Array Value} {T : TypeId} {fr : Nat × Nat} (h : NOwn w base v l) (hb : w.heap[R]? = some (.cells cs T fr)) (hT : T ≠ 3) : v.ownBlock ≠ some R := by
  obtain ⟨h1, ⟨rfl, h2⟩ | ⟨g, cap, cur, rfl, hg, hr, _⟩⟩ := h
  · simp [Value.ownBlock]
  · simp [Value.ownBlock]
    rintro rfl
    rw [hr] at hb
    simp at hb
    exact hT hb.2.1.symm
theorem EOwn.row {w : World} {base : Nat} {v : Value} {l : List Edg} (h : EOwn w base v l) {k : Nat} (hk : v.ownBlock = some k) : ∃ cs, w.heap[k]? = some (.cells cs 36 (0, 0)) := by
  obtain ⟨h1, ⟨rfl, h2⟩ | ⟨g, cap, cur, rfl, hg, hr, _⟩⟩ := h
  · simp [Value.ownBlock] at hk
  · simp [Value.ownBlock] at hk
    subst hk
    exact ⟨cur, hr⟩

/-- The cursor g, the result's box, the graph's box R with its edges, the numbers drawn. -/
structure RS (w : World) (g : Nat) (a : Option Addr) (cap : Nat) (xs : List Int) (R : Nat) (n : Int) (u : Value) (l : List Edg) (v : Value) (q : List Int) (wr : World) : Prop where
  drw : Drw wr g a cap xs
  below : Below w.heap.size w wr
  gl : w.heap.size < g
  hR : w.heap.size < R
  ne : R ≠ g
  code : ∀ x, a = some x → xs ≠ [] → x.block < w.heap.size
  res : wr.heap[w.heap.size]? = some (.cells #[.int .i64 0, .slice none 0 0] 25 (0, 0))
  box : wr.heap[R]? = some (.cells #[.int .i64 n, u] 25 (0, 0))
  eo : EOwn wr (w.heap.size + 1) u l
  no : NOwn wr (w.heap.size + 1) v q

section
variable {w wr w' : World} {g : Nat} {a : Option Addr} {cap : Nat} {xs : List Int} {R : Nat} {n : Int} {u : Value} {l : List Edg} {v : Value} {q : List Int}
theorem RS.cur (h : RS w g a cap xs R n u l v q wr) : ∃ cs, wr.heap[g]? = some (.cells cs 66 (0, 0)) := by
  obtain ⟨i, hv, hh, _⟩ := h.drw.2.2.1
  exact ⟨_, hh⟩
theorem RS.draw (h : RS w g a cap xs R n u l v q wr) (hg : wr.grownBy w' (some g)) (hd : Drw w' g a cap xs) : RS w g a cap xs R n u l v q w' := by
  have h1 := h.gl
  have h2 := h.hR
  have h3 := h.ne
  obtain ⟨cs, hc⟩ := h.cur
  refine ⟨hd, h.below.grown hg h.below.size (fun k hk => by simp at hk; omega), h1, h2, h3, h.code, ?_, ?_, h.eo.far hg (fun k hk e => ?_), h.no.far hg (fun k hk e => ?_)⟩
  · exact (hg.block _ (lt_of_row h.res) (fun e => by simp at e; omega)).trans h.res
  · exact (hg.block _ (lt_of_row h.box) (fun e => by simp at e; omega)).trans h.box
  · simp at e; subst e; exact h.eo.other hc (by decide) hk
  · simp at e; subst e; exact h.no.other hc (by decide) hk
theorem RS.on (h : RS w g a cap xs R n u l v q wr) (hb : Below wr.heap.size wr w') : RS w g a cap xs R n u l v q w' :=
  ⟨h.drw.grow hb, h.below.trans (hb.mono h.below.size), h.gl, h.hR, h.ne, h.code, (hb.block _ (lt_of_row h.res)).trans h.res, (hb.block _ (lt_of_row h.box)).trans h.box, h.eo.on hb, h.no.on hb⟩
theorem RS.app {v' : Value} {q' : List Int} (h : RS w g a cap xs R n u l v q wr) (hO : NOwn w' (w.heap.size + 1) v' q') (hg : wr.grownBy w' v.ownBlock) : RS w g a cap xs R n u l v' q' w' := by
  obtain ⟨cs, hc⟩ := h.cur
  refine ⟨h.drw.away hg (fun e => h.no.other hc (by decide) e) (fun x hx he e => ?_), h.below.grown hg h.below.size (fun k hk => by have := h.no.lt k hk; omega), h.gl, h.hR, h.ne, h.code, ?_, ?_, h.eo.far hg (fun k hk e => ?_), hO⟩
  · have := h.no.lt _ e; have := h.code x hx he; omega
  · exact (hg.block _ (lt_of_row h.res) (fun e => h.no.other h.res (by decide) e.symm)).trans h.res
  · exact (hg.block _ (lt_of_row h.box) (fun e => h.no.other h.box (by decide) e.symm)).trans h.box
  · obtain ⟨c2, hr⟩ := h.eo.row hk
    exact h.no.other hr (by decide) e
theorem l1Below_rs (m : Int) (h : RS w g a cap xs R n u l v q wr) (hm : m ≤ 1000) :
    Calls Try.prog 29 #[.pointer (some ⟨g, 0, none⟩), .int .i64 m] wr fun e w' => ∃ x : Int, e = .returned (.int .i64 x) ∧ 0 ≤ x ∧ (0 < m → x < m) ∧ (m ≤ 0 → x = 0) ∧ RS w g a cap xs R n u l v q w' :=
  (l1Below_drw g a cap xs m wr h.drw (by omega)).mono fun e w' ⟨x, h1, h2, h3, h4, h5, h6⟩ => ⟨x, h1, h2, h3, h4, h.draw h6 h5⟩
theorem l1Once_rs (m : Int) (h : RS w g a cap xs R n u l v q wr) (hm : m ≤ 1000) :
    Calls Try.prog 30 #[.pointer (some ⟨g, 0, none⟩), .int .i64 m] wr fun e w' => ∃ b : Bool, e = .returned (.bool b) ∧ RS w g a cap xs R n u l v q w' :=
  (l1Once_drw g a cap xs m wr h.drw (by omega)).mono fun e w' ⟨b, h1, h5, h6⟩ => ⟨b, h1, h.draw h6 h5⟩
theorem rs_at (h : RS w g a cap xs R n u l v q wr) : wr.cell? ⟨R, 0, none⟩ = some (.int .i64 n) ∧ wr.cell? ⟨R, 1, none⟩ = some u ∧ w.heap.size + 1 ≤ wr.heap.size := ⟨(row2 h.box).1, (row2 h.box).2.1, lt_of_row h.res⟩
end

/-- 'append(out, z)', numbers of the call's own. -/
theorem wpList_append_num {w : World} {ops : Array Oper} {rest : List Oper} {o : Oper} {a : Act} {Q : Exit → Act → World → Prop} (hgd : o.guard = none) (s x : Operand)
    (ho : o.op = .call { callee := .builtin .append, args := #[s, x], argTypes := #[27, 27] })
    (base : Nat) (v : Value) (q : List Int) (z : Int) (hs : a.eval s = v) (hB : NOwn w base v q) (hx : a.eval x = .slice (some ⟨w.heap.size, 0, none⟩) 1 1)
    (hlen : q.length ≤ 1000000) (hbase : base ≤ w.heap.size)
    (h : ∀ v' w', NOwn w' base v' (q ++ [z]) → (w.alloc (.cells #[.int .i64 z] 3)).grownBy w' v.ownBlock → wpList Try.prog ops Q rest (a.put o.dst v') w') : wpList Try.prog ops Q (o :: rest) a (w.alloc (.cells #[.int .i64 z] 3)) := by
  obtain ⟨i3, hi3, hy0, hy1, hy2⟩ := info_parts infoI
  refine wpList_append_own _ hgd s x 27 ho base 3 i3 (.int .i64 0) 1 8 Try.underlying27 hi3 hy0 hy1 hy2 rfl (by decide) v q.length (iC q) hs (hB.on ((Below.refl _ _).alloc (Nat.le_refl _) _)) ⟨w.heap.size, 0, none⟩ 1 1 [.int .i64 z] hx (by rfl) (World.news_of_block (cs := #[.int .i64 z]) (t := 3) (fr := (0, 0)) (heap_alloc_new w _)) (by simp [Value.oneCell']) (by unfold maxLen; omega) (by omega) (by simp; omega) ?_
  intro v' w' hown hg _
  refine h v' w' ?_ hg
  unfold NOwn
  rw [iC_add, List.length_append]
  exact hown
end Go.Proofs.Ytcdonbepfmhdpaa
/-
  Draws of graphs: DrawReach of the specification.
-/
namespace Go.Proofs.Ytcdonbepfmhdpaa
open Go.RowKit
set_option linter.unusedVariables false
set_option linter.unusedSimpArgs false

/-- What DrawReach leaves. -/
def ReachDraw (w : World) (e : Ending) (w' : World) : Prop :=
  ∃ (n : Int) (u : Value) (l : List Edg) (v : Value) (q : List Int), e = .returned (.tuple #[.agg #[.int .i64 n, u], v]) ∧ -1 ≤ n ∧ n ≤ 21 ∧ l.length ≤ 15 ∧ q.length ≤ 3 ∧ EOwn w' w.heap.size u l ∧ NOwn w' w.heap.size v q ∧ Below w.heap.size w w'

theorem rs_end {w wr : World} {g : Nat} {a : Option Addr} {cap : Nat} {xs : List Int} {R : Nat} {n : Int} {u : Value} {l : List Edg} {v : Value} {q : List Int} (hd : RS w g a cap xs R n u l v q wr) (h0 : -1 ≤ n) (h1 : n ≤ 21) (h2 : l.length ≤ 15) (h3 : q.length ≤ 3) :
    (((wr.cell? ⟨w.heap.size, 0, none⟩ = some (.int .i64 0) ∧ wr.cell? ⟨w.heap.size, 1, none⟩ = some (.slice none 0 0)) ∧ wr.frozen? ⟨w.heap.size, 0, none⟩ = false ∧ wr.frozen? ⟨w.heap.size, 1, none⟩ = false) ∧
      (set2 wr w.heap.size 0 (.int .i64 n) u).cell? ⟨w.heap.size, 0, none⟩ = some (.int .i64 n) ∧ (set2 wr w.heap.size 0 (.int .i64 n) u).cell? ⟨w.heap.size, 1, none⟩ = some u) ∧ ReachDraw w (.returned (.tuple #[.agg #[.int .i64 n, u], v])) (set2 wr w.heap.size 0 (.int .i64 n) u) := by
  have hg := set2_grown wr w.heap.size 0 (.int .i64 n) u
  obtain ⟨r0, r1, rf⟩ := row2 hd.res
  obtain ⟨z0, z1, _⟩ := row2 (set2_heap (j := 0) (.int .i64 n) u hd.res)
  refine ⟨⟨⟨⟨r0, r1⟩, rf 0, rf 1⟩, z0, z1⟩, n, u, l, v, q, rfl, h0, h1, h2, h3, (hd.eo.far hg (fun k hk e => ?_)).down (by omega), (hd.no.far hg (fun k hk e => ?_)).down (by omega), hd.below.grown hg hd.below.size (fun k hk => by simp at hk; omega)⟩
  · have := hd.eo.lt k hk; simp at e; omega
  · have := hd.no.lt k hk; simp at e; omega

set_option maxHeartbeats 1600000 in
set_option maxRecDepth 100000 in
theorem DrawReach_any (a : Option Addr) (cap : Nat) (xs : List Int) (w : World) (ha : Seg w a xs) (hl : xs.length ≤ maxLen) :
    Calls Try.prog 13 #[.slice a xs.length cap] w (ReachDraw w) := by
  have HL : Hid (∀ o : Obj, Calls Try.prog 19 #[.slice a xs.length cap] (w.alloc o) fun e w' => e = .returned (.pointer (some ⟨w.heap.size + 1, 0, none⟩)) ∧ Drw w' (w.heap.size + 1) a cap xs ∧ Below (w.heap.size + 1) (w.alloc o) w') := fun o => by
    have := l1New_drw a cap xs (w.alloc o) (ha.grow ((Below.refl _ _).alloc (Nat.le_refl _) o)) hl
    simpa using this
  have HS : Hid (∀ (n : Int) (u : Value) (l : List Edg) w1 w2, Below (w.heap.size + 1) (w.alloc (.cells #[.int .i64 0, .slice none 0 0] 25)) w1 → Drw w1 (w.heap.size + 1) a cap xs → EOwn w2 w1.heap.size u l → Drw w2 (w.heap.size + 1) a cap xs → w1.grownBy w2 (some (w.heap.size + 1)) → RS w (w.heap.size + 1) a cap xs w2.heap.size n u l (.slice none 0 0) [] (w2.alloc (.cells #[.int .i64 n, u] 25))) := by
    intro n u l w1 w2 hb1 hd1 hO hd hg
    have hz := hg.size
    have hz1 := hd1.lt
    have hb : Below w2.heap.size w2 (w2.alloc (.cells #[.int .i64 n, u] 25)) := (Below.refl _ _).alloc (Nat.le_refl _) _
    have hw : Below w.heap.size w (w.alloc (.cells #[.int .i64 0, .slice none 0 0] 25)) := (Below.refl _ _).alloc (Nat.le_refl _) _
    refine ⟨hd.grow hb, ((hw.trans (hb1.mono (by omega))).grown hg (by omega) (fun k hk => by simp at hk; omega)).trans (hb.mono (by omega)), by omega, by omega, by omega, ha.lt, ?_, (MapKept.heap_alloc w2 _).1, (hO.on hb).down (by omega), NOwn.nil _ _⟩
    exact (hb.block _ (by omega)).trans ((hg.block _ (by omega) (by simp)).trans ((hb1.block _ (by omega)).trans (MapKept.heap_alloc w _).1))
  clear ha
  show Calls _ _ _ _ fun e w' => ReachDraw w e w'
  generalize hlen : xs.length = len at *
  clear hlen
  go_enter Try.func13, Try.ntmps13
  go_wp2_with fail
  refine (HL.out _).mono ?_
  rintro e w1 ⟨rfl, hd1, hb1⟩
  have HB := hide' (l9bent_any (w.heap.size + 1) a cap xs w1 hd1)
  have HD1 := hide' hd1
  have HB1 := hide' hb1
  clear hd1 hb1 HL
  go_wp2_with fail
  refine HB.out.mono ?_
  rintro e w2 ⟨n, u, l, rfl, hn0, hn1, hl, hO, hd, hg⟩
  have HR := hide' (HS.out n u l w1 w2 HB1.out HD1.out hO hd hg)
  obtain ⟨ua, uc, hu⟩ := hO.form
  subst hu
  clear hO hd hg HB HD1 HB1 HS
  go_wp2_with fail
  refine (l1Below_rs 3 HR.out (by omega)).mono ?_
  rintro e w3 ⟨m, rfl, hm0, hm3, -, hd3⟩
  have hm3 := hm3 (by omega)
  obtain ⟨M, rfl⟩ : ∃ M : Nat, m = M := ⟨m.toNat, by omega⟩
  have HR3 := hide' hd3
  clear hd3 HR
  generalize hRR : w2.heap.size = R at *
  clear hRR
  go_wp2_with fail
  go_loopw [6, 8] (fun s6 i wr => ∃ (k : Nat) (v : Value) (q : List Int), i = .int .i64 k ∧ s6 = v ∧ k ≤ M ∧ q.length ≤ k ∧ Hid (RS w (w.heap.size + 1) a cap xs R n (.slice ua l.length uc) l v q wr)) (fun _ i _ => M - (intOf i).toNat)
  case atStart => exact ⟨0, _, [], rfl, rfl, Nat.zero_le _, Nat.zero_le _, HR3⟩
  case round =>
    obtain ⟨k, v, q, rfl, rfl, hk, hq, hd⟩ := hrel
    obtain ⟨va, vc, hv⟩ := hd.out.no.form
    subst hv
    obtain ⟨b0, b1, hsz⟩ := rs_at hd.out
    clear HR3
    by_cases hlt : (k : Int) < (M : Int)
    · go_wp2_with fail
      refine (l1Below_rs (n + 1) hd.out (by omega)).mono ?_
      rintro e w4 ⟨x, rfl, -, -, -, hd4⟩
      obtain ⟨-, -, hsz4⟩ := rs_at hd4
      have HD4 := hide' hd4
      clear hd4 hd b0 b1
      go_wp2_with (at_builtin; refine wpList_append_num rfl (.tmp 20) (.tmp 26) (by rfl) (w.heap.size + 1) (.slice va q.length vc) q x (by rfl) HD4.out.no (by rfl) (by omega) hsz4 ?_; intro v5 w5 hO5 hg5; obtain ⟨q5, hq5, hO5⟩ : ∃ q5, q5.length ≤ k + 1 ∧ NOwn w5 (w.heap.size + 1) v5 q5 := ⟨_, by simp; omega, hO5⟩; have HD5 := hide' ((HD4.out.on ((Below.refl _ _).alloc (Nat.le_refl _) _)).app hO5 hg5); clear hO5 hg5)
      all_goals
        go_wp2
        go_roundw
        case rel => exact ⟨k + 1, v5, q5, by go_num, rfl, by omega, by omega, HD5⟩
        case measure => simp [intOf]; omega
    · go_wp2_with fail
      refine (l1Once_rs 20 hd.out (by omega)).mono ?_
      rintro e w4 ⟨b, rfl, hd4⟩
      obtain ⟨c0, c1, hsz4⟩ := rs_at hd4
      have HD4 := hide' hd4
      clear hd4 hd b0 b1
      cases b with
      | false =>
        have HE := hide' (rs_end HD4.out hn0 hn1 hl (by omega))
        obtain ⟨⟨⟨s0, s1⟩, sf0, sf1⟩, z0, z1⟩ := HE.out.1
        simp only [set2, Nat.zero_add] at z0 z1
        go_wp2
        refine bodyPost_ret (v := .tuple #[.agg #[.int .i64 n, .slice ua l.length uc], .slice va q.length vc]) (by simp [results, Try.results13, go_sem, z0, z1]) rfl ?_
        exact HE.out.2
      | true =>
        clear c0 c1
        go_wp2_with (at_builtin; refine wpList_append_num rfl (.tmp 30) (.tmp 31) (by rfl) (w.heap.size + 1) (.slice va q.length vc) q (-1) (by rfl) HD4.out.no (by rfl) (by omega) hsz4 ?_; intro v5 w5 hO5 hg5; obtain ⟨q5, hq5, hO5⟩ : ∃ q5, q5.length ≤ k + 1 ∧ NOwn w5 (w.heap.size + 1) v5 q5 := ⟨_, by simp; omega, hO5⟩; have HD5 := hide' ((HD4.out.on ((Below.refl _ _).alloc (Nat.le_refl _) _)).app hO5 hg5); have HE := hide' (rs_end HD5.out hn0 hn1 hl (by omega)); obtain ⟨⟨⟨s0, s1⟩, sf0, sf1⟩, z0, z1⟩ := HE.out.1; obtain ⟨c0, c1, -⟩ := rs_at HD5.out; simp only [set2, Nat.zero_add] at z0 z1; clear hO5 hg5)
        all_goals
          go_wp2
          refine bodyPost_ret (v := .tuple #[.agg #[.int .i64 n, .slice ua l.length uc], v5]) (by simp [results, Try.results13, go_sem, z0, z1]) rfl ?_
          exact HE.out.2
end Go.Proofs.Ytcdonbepfmhdpaa
