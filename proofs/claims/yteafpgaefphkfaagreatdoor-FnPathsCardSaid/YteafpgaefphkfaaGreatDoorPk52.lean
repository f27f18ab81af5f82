/-
  Texts that a law leans on, one behind the other; no statement is proved here.
-/
import Derived.Test.YteafpgaefphkfaaGreatDoorPk51
import Derived.Test.YteafpgaefphkfaaGreatDoorPk50
import Derived.Test.YteafpgaefphkfaaGreatDoorPk42
import Derived.Test.YteafpgaefphkfaaGreatDoorPk37
import Derived.Test.YteafpgaefphkfaaGreatDoorPk14
/-
  What stands while DrawAt draws: a value, its box, a path. No statement is proved here.
-/
namespace Go.Proofs.YteafpgaefphkfaaGreatDoor
open Go.RowKit
set_option linter.unusedVariables false
set_option linter.unusedSimpArgs false

section
variable {B M : Nat} {rk rkr rk5 : Nat → Nat} {g : Nat} {A : Option Addr} {C : Nat} {cs : List Int} {w wr w5 : World} {a : Option Addr} {n cap : Nat}

theorem bytes_none (w : World) (q : Nat) (ty : TypeId) (x : Value) (hx : x = .slice none 0 0) : (Builtin.append_ #[22, 22] ty #[.slice (some ⟨q, 0, none⟩) 0 0, x]).run Tryz.prog w = .ok (.slice (some ⟨q, 0, none⟩) 0 0) w := by
  subst hx
  obtain ⟨i, hi, hz0, hz1, hz2⟩ := info_parts info5
  simp [Builtin.append_, run_underlying Tryz.underlying22, sizeOf, typeInfo, hi, Builtin.lenOf, Builtin.firstCells, storeCells]
theorem bytes_empty (w : World) (q : Nat) (ty : TypeId) (ad : Addr) (c : Nat) : (Builtin.append_ #[22, 22] ty #[.slice (some ⟨q, 0, none⟩) 0 0, .slice (some ad) 0 c]).run Tryz.prog w = .ok (.slice (some ⟨q, 0, none⟩) 0 0) w := by
  obtain ⟨i, hi, hz0, hz1, hz2⟩ := info_parts info5
  have hf := run_firstCells_some (P := Tryz.prog) w i.size 0 ad 0 c [] (by simp) (fun j u hu => by simp at hu)
  simp [Builtin.append_, run_underlying Tryz.underlying22, sizeOf, typeInfo, hi, Builtin.lenOf, hf, storeCells]

/-- 'append([]byte{}, s...)'. -/
theorem bytes_copy (hH : Hw B M rk w) (hB : B ≤ w.heap.size) (hM : M ≤ 1000000) {v : Value} (hv : Sli B M 5 1 (fun _ => True) w v) (ty : TypeId) :
    ∃ (x : Value) (w' : World), (Builtin.append_ #[22, 22] ty #[.slice (some ⟨w.heap.size, 0, none⟩) 0 0, v]).run Tryz.prog (w.alloc (.cells #[] 5)) = .ok x w' ∧ Sli B M 5 1 (fun _ => True) w' x ∧ Hw B M rk w' ∧ Below w.heap.size w w' := by
  have hb : Below w.heap.size w (w.alloc (.cells #[] 5)) := (Below.refl _ _).alloc (Nat.le_refl _) _
  have hHa : Hw B M rk (w.alloc (.cells #[] 5)) := hH.alloc_b #[] (0, 0) (.inl rfl) (fun j c hj => by simp at hj)
  have hva := hv.shp row3_b (Shp.alloc w (.cells #[] 5)) fun _ _ h => h
  have hE : Sli B M 5 1 (fun _ => True) (w.alloc (.cells #[] 5)) (.slice (some ⟨w.heap.size, 0, none⟩) 0 0) := ⟨_, 0, 0, rfl, Nat.zero_le _, Nat.le_refl _, Nat.zero_le _, .inr ⟨w.heap.size, #[], (0, 0), rfl, hB, trivial, heap_alloc_new w _, rfl⟩⟩
  obtain ⟨av, nv, cv, rfl, h1, h2, h3, hc⟩ := hva
  rcases hc with ⟨rfl, rfl⟩ | ⟨gv, cur, fr, rfl, hBg, _, hg, hcz⟩
  · obtain rfl : nv = 0 := by omega
    exact ⟨_, _, bytes_none _ _ ty _ rfl, hE, hHa, hb⟩
  · by_cases h0 : nv = 0
    · subst h0
      exact ⟨_, _, bytes_empty _ _ ty _ _, hE, hHa, hb⟩
    · obtain ⟨i, hi, hz0, hz1, hz2⟩ := info_parts info5
      have hfr : ∀ (g : Nat) (cur : Array Value) (fr : Nat × Nat), B ≤ g → (w.alloc (.cells #[] 5)).heap[g]? = some (.cells cur 5 fr) → fr.2 = 0 ∨ cur.size ≤ fr.1 := fun g cur fr hB hg => ((hHa g hB cur _ fr hg).1 rfl).1
      have hby := ((hHa gv hBg cur _ fr hg).1 rfl).2
      have hnl : (cur.toList.take nv).length = nv := by rw [List.length_take, Array.length_toList]; omega
      have hall : ∀ u ∈ cur.toList.take nv, ∃ x, Byt x ∧ u = .int .u8 x := by
        intro u hu
        obtain ⟨q, hq⟩ := List.getElem?_of_mem (List.mem_of_mem_take hu)
        exact hby q u (by rwa [Array.getElem?_toList] at hq)
      obtain ⟨g', cap', w', hrun, k1, k2, hcase⟩ := run_append_sl (w.alloc (.cells #[] 5)) 22 ty 5 i (.int .u8 0) 1 1 Tryz.underlying22 hi hz0 hz1 hz2 (by omega) (by rfl) B M _ _ 0 0 hE hfr (by omega) ⟨gv, 0, none⟩ nv cv (cur.toList.take nv) (by rw [hnl]; omega) (fun j u hu => by
          have hj := (List.getElem?_eq_some_iff.1 hu).1
          rw [hnl] at hj
          rw [List.getElem?_take, if_pos hj, Array.getElem?_toList] at hu
          rw [Addr.add_lit, Nat.zero_add, cell_of_row _ gv j cur 5 fr hg, hu]) (fun u hu => by obtain ⟨x, _, rfl⟩ := hall u hu; rfl) (by omega) (by omega)
      rcases hcase with ⟨cur', fr', e1, _, _, _, hg', hcz', hfit, _⟩ | ⟨rfl, old, hol, _, rfl⟩
      · simp at e1
      · obtain rfl : old = [] := by simpa using hol
        have hN : Hw B M rk ((w.alloc (.cells #[] 5)).drew.alloc (.cells (([] : List Value).toArray ++ (cur.toList.take nv).toArray ++ Builtin.zeroCells (Value.cells (.int .u8 0)) (cap' - (0 + nv))) 5)) := by
          refine Hw.alloc_b (w := (w.alloc (.cells #[] 5)).drew) (hHa.heap rfl) _ (0, 0) (.inl rfl) fun j d e => ?_
          rw [← Array.getElem?_toList] at e
          have e' : (cur.toList.take nv ++ (Builtin.zeroCells (Value.cells (.int .u8 0)) (cap' - (0 + nv))).toList)[j]? = some d := by simpa using e
          rcases List.mem_append.1 (List.mem_of_getElem? e') with hm | hm
          · exact hall d hm
          · obtain ⟨q, hq⟩ := List.getElem?_of_mem hm
            have := zeroCells_at hq
            have ez : (Value.cells (.int .u8 0)) = #[.int .u8 0] := by rfl
            rw [ez] at this
            simp [Nat.mod_one] at this
            subst this
            exact ⟨0, by unfold Byt; omega, rfl⟩
        refine ⟨_, _, hrun, ⟨_, 0 + nv, cap', rfl, by omega, k1, k2, .inr ⟨_, _, (0, 0), rfl, by simp; omega, trivial, heap_alloc_new (w.alloc (.cells #[] 5)).drew _, ?_⟩⟩, hN, ?_⟩
        · simp only [Array.size_append, List.size_toArray, size_zeroCells, hnl]
          simp [Value.cells]
          omega
        · have hd : Below w.heap.size w (w.alloc (.cells #[] 5)).drew := hb.drew
          exact hd.alloc hd.size _

theorem wpList_bytes_copy {v : Value} {ops : Array Oper} {rest : List Oper} {o : Oper} {ac : Act} {Q : Exit → Act → World → Prop} (hgd : o.guard = none) (s x : Operand) (ho : o.op = .call { callee := .builtin .append, args := #[s, x], argTypes := #[22, 22] })
    (hH : Hw B M rk w) (hB : B ≤ w.heap.size) (hM : M ≤ 1000000) (hv : Sli B M 5 1 (fun _ => True) w v) (hs : ac.eval s = .slice (some ⟨w.heap.size, 0, none⟩) 0 0) (hx : ac.eval x = v)
    (hk : ∀ (u : Value) (w' : World), Sli B M 5 1 (fun _ => True) w' u → Hw B M rk w' → Below w.heap.size w w' → wpList Tryz.prog ops Q rest (ac.put o.dst u) w') : wpList Tryz.prog ops Q (o :: rest) ac (w.alloc (.cells #[] 5)) := by
  refine wpList_plain hgd fun K hK => ?_
  obtain ⟨u, w', hrun, r1, r2, r3⟩ := bytes_copy hH hB hM hv o.type
  unfold Oper.wp execOp
  simp only [ho, resolve, invoke, builtin, Sem.run_bind, Sem.run_pure, Result.andThen_ok, List.map_toArray, List.map_cons, List.map_nil, hs, hx, hrun]
  exact hK _ _ (hk u w' r1 r2 r3)

theorem step_sps_cat {q off n0 cap0 L k : Nat} {ops : Array Oper} {o : Oper} {ac : Act} {K : Act → World → Prop} {Q : Exit → Act → World → Prop} {E : Prop} (hgd : o.guard = none) (s x : Operand) (ho : o.op = .call { callee := .builtin .append, args := #[s, x], argTypes := #[23, 23] })
    (h : PdSt B M rk g A C cs w rkr w5 (some ⟨q, off, none⟩) n0 cap0) (hn0 : n0 ≤ 1000) (hS : SpS B M L w5 a n cap) (hk : k ≤ n) (hn : n ≤ 1000) (hs : ac.eval s = .slice (some ⟨q, off, none⟩) n0 cap0) (hx : ac.eval x = .slice a k cap)
    (hK' : ∀ (a' : Option Addr) (cap' : Nat) (w' : World), PdSt B M rk g A C cs w rkr w' a' (n0 + k) cap' → K (ac.put o.dst (.slice a' (n0 + k) cap')) w') : if Region.wanted o (yielded ops ac.tmps) = true then Oper.wp Tryz.prog o ac w5 K Q else E := by
  have hw : Region.wanted o (yielded ops ac.tmps) = true := by simp [Region.wanted, hgd]
  rw [if_pos hw]
  obtain ⟨a', cap', w', hrun, hP⟩ := h.cat hn0 hS hk hn o.type
  unfold Oper.wp
  simp [execOp, ho, resolve, invoke, builtin, hs, hx, hrun, Result.andThen]
  exact hK' a' cap' w' hP
end

/-- While DrawAt draws: the value's box V, the answer's box R below B. -/
def AtSt (B M : Nat) (rk : Nat → Nat) (g : Nat) (A : Option Addr) (C : Nat) (cs : List Int) (w : World) (V : Nat) (c0 c1 c2 c3 c4 : Value) (wz : World) : Prop :=
  Hs B M rk wz g A C cs ∧ Grp B M rk 11 wz (c0, c1, c2, c3, c4) ∧ wz.heap[V]? = some (.cells #[c0, c1, c2, c3, c4] 29 (0, 0)) ∧ w.heap.size < B ∧
    wz.heap[w.heap.size]? = some (.cells #[.int .i64 0, .int .i64 0, .slice none 0 0, .slice none 0 0, .slice none 0 0] 29 (0, 0)) ∧ Below w.heap.size w wz

section
variable {B M : Nat} {rk rk5 : Nat → Nat} {g : Nat} {A : Option Addr} {C : Nat} {cs : List Int} {w wz w5 : World} {V : Nat} {c0 c1 c2 c3 c4 : Value}

theorem AtSt.next (h : AtSt B M rk g A C cs w V c0 c1 c2 c3 c4 wz) (hT : Hst rk wz rk5 w5 g) (hS : Hs B M rk5 w5 g A C cs) : AtSt B M rk5 g A C cs w V c0 c1 c2 c3 c4 w5 := by
  obtain ⟨h1, h2, h3, h4, h5, h6⟩ := h
  have hVg := h1.ne_row h3 row3_v
  have hBg := h1.2.2.1
  have hgl := h1.lt
  exact ⟨hS, h2.shp hT.2.2 hT.1 (Nat.le_refl _), (hT.block (Array.getElem?_eq_some_iff.1 h3).1 hVg).trans h3, h4, (hT.block (by omega) (by omega)).trans h5, h6.grown hT.2.1 h6.size fun k hk => by simp at hk; omega⟩

theorem AtSt.heap {wx : World} (h : AtSt B M rk g A C cs w V c0 c1 c2 c3 c4 wz) (e : wx.heap = wz.heap) (e1 : wx.os = wz.os) (e2 : wx.tape = wz.tape) (e3 : wx.output = wz.output) : AtSt B M rk g A C cs w V c0 c1 c2 c3 c4 wx := by
  obtain ⟨h1, h2, h3, h4, h5, h6⟩ := h
  exact ⟨h1.heap e, h2.shp (Shp.heap e) (Rks.refl _ _) (Nat.le_refl _), by rw [e]; exact h3, h4, by rw [e]; exact h5, ⟨e1.trans h6.os, e2.trans h6.tape, e3.trans h6.output, by rw [e]; exact h6.size, fun b hb => by rw [e]; exact h6.block b hb⟩⟩
end

/-- A value and a path that can be read. -/
def AtTwo (w : World) (e : Ending) (w' : World) : Prop :=
  ∃ (vk vn : Int) (a2 : Option Addr) (l2 p2 : Nat) (a3 : Option Addr) (l3 p3 : Nat) (a4 : Option Addr) (l4 p4 : Nat) (a : Option Addr) (n cap : Nat), e = .returned (.tuple #[.agg #[.int .i64 vk, .int .i64 vn, .slice a2 l2 p2, .slice a3 l3 p3, .slice a4 l4 p4], .slice a n cap]) ∧
    Rd w' (.int .i64 vk, .int .i64 vn, .slice a2 l2 p2, .slice a3 l3 p3, .slice a4 l4 p4) ∧ RdP w' (.slice a n cap) n ∧ n ≤ 8 ∧ Below w.heap.size w w'

theorem at_end {B M : Nat} {rk rk0 : Nat → Nat} {g : Nat} {A : Option Addr} {C : Nat} {cs : List Int} {w wz w0 : World} {V : Nat} {vk vn : Int} {a2 : Option Addr} {l2 p2 : Nat} {a3 : Option Addr} {l3 p3 : Nat} {a4 : Option Addr} {l4 p4 : Nat} {a : Option Addr} {n cap : Nat}
    (h : AtSt B M rk g A C cs w V (.int .i64 vk) (.int .i64 vn) (.slice a2 l2 p2) (.slice a3 l3 p3) (.slice a4 l4 p4) wz) (hP : PdSt B M rk0 g A C cs w0 rk wz a n cap) (hn : n ≤ 8) :
    AtTwo w (.returned (.tuple #[.agg #[.int .i64 vk, .int .i64 vn, .slice a2 l2 p2, .slice a3 l3 p3, .slice a4 l4 p4], .slice a n cap])) (set5 wz w.heap.size 0 (.int .i64 vk) (.int .i64 vn) (.slice a2 l2 p2) (.slice a3 l3 p3) (.slice a4 l4 p4)) := by
  obtain ⟨h1, h2, h3, h4, h5, h6⟩ := h
  obtain ⟨e1, e2, e3, e4⟩ := set5_same wz w.heap.size 0 (.int .i64 vk) (.int .i64 vn) (.slice a2 l2 p2) (.slice a3 l3 p3) (.slice a4 l4 p4)
  have ho : ∀ b, B ≤ b → b < wz.heap.size → (set5 wz w.heap.size 0 (.int .i64 vk) (.int .i64 vn) (.slice a2 l2 p2) (.slice a3 l3 p3) (.slice a4 l4 p4)).heap[b]? = wz.heap[b]? := fun b hb _ => set5_other _ _ _ _ _ _ _ _ b (by omega)
  have hr := (h1.rd h2 (Nat.le_refl _)).on ho (by omega)
  obtain ⟨l, hl, hp⟩ := hP.1.path h1.1 hP.base
  have hB := h1.base
  refine ⟨vk, vn, a2, l2, p2, a3, l3, p3, a4, l4, p4, a, n, cap, rfl, hr.rd, ⟨l, hl, (hp.agree (fun b hb => ho b hb.1 hb.2)).mono fun b hb => by have := hb.2; omega⟩, hn, ?_⟩
  exact ⟨e1.trans h6.os, e2.trans h6.tape, e3.trans h6.output, by have := h6.size; omega, fun b hb => (set5_other _ _ _ _ _ _ _ _ b (by omega)).trans (h6.block b hb)⟩
end Go.Proofs.YteafpgaefphkfaaGreatDoor
/-
  DrawAt of the specification: a value and a path that can be read. No statement is proved here.
-/
namespace Go.Proofs.YteafpgaefphkfaaGreatDoor
open Go.RowKit
set_option linter.unusedVariables false
set_option linter.unusedSimpArgs false

/-- The first key of a map that has one. -/
theorem first_key {B M : Nat} {rk : Nat → Nat} {w : World} {a3 : Option Addr} {l3 p3 : Nat} (h : Hw B M rk w) (hv : Sli B M 22 1 (fun _ => True) w (.slice a3 l3 p3)) (hl : 0 < l3) :
    ∃ (gK : Nat) (ak : Option Addr) (lk pk : Nat), a3 = some ⟨gK, 0, none⟩ ∧ w.cell? ⟨gK, 0, none⟩ = some (.slice ak lk pk) ∧ Sli B M 5 1 (fun _ => True) w (.slice ak lk pk) := by
  obtain ⟨a, n, cap, e, h1, h2, h3, ⟨rfl, rfl⟩ | ⟨g, cur, fr, rfl, hB, _, hg, hc⟩⟩ := hv
  · simp only [Value.slice.injEq] at e
    omega
  · simp only [Value.slice.injEq] at e
    obtain ⟨rfl, rfl, rfl⟩ := e
    have hk := ((h g hB cur _ fr hg).2.1 rfl).2 0 _ (Array.getElem?_eq_getElem (by omega))
    have hcell : w.cell? ⟨g, 0, none⟩ = some cur[0] := by rw [cell_of_row w g 0 cur _ fr hg]; exact Array.getElem?_eq_getElem (by omega)
    generalize cur[0] = u at hk hcell
    obtain ⟨ak, lk, pk, rfl, r⟩ := hk
    exact ⟨g, ak, lk, pk, rfl, hcell, ⟨ak, lk, pk, rfl, r⟩⟩

theorem one_step {B M : Nat} {rk : Nat → Nat} {g : Nat} {A : Option Addr} {C : Nat} {cs : List Int} {w : World} {u : Value} (h : Hs B M rk w g A C cs) (hu : Sli B M 5 1 (fun _ => True) w u) : PdSt B M rk g A C cs w rk (w.alloc (.cells #[.int .i64 0, u, .int .i64 0] 50)) (some ⟨w.heap.size, 0, none⟩) 1 1 := by
  have hb : Below w.heap.size w (w.alloc (.cells #[.int .i64 0, u, .int .i64 0] 50)) := (Below.refl _ _).alloc (Nat.le_refl _) _
  refine ⟨⟨Nat.le_refl _, by unfold maxLen; omega, .inr ⟨w.heap.size, 0, _, rfl, Nat.le_refl _, heap_alloc_new _ _, rfl, ?_⟩⟩, h.below (h.1.alloc_other _ _ _ (by decide)) hb, Hst.below hb (Rks.refl _ _), h.lt⟩
  exact Trs.one ⟨⟨0, rfl⟩, hu.shp row3_b (Shp.alloc _ _) fun _ _ h => h, ⟨0, rfl⟩⟩

set_option maxHeartbeats 6400000 in
set_option maxRecDepth 100000 in
theorem DrawAt_any (A : Option Addr) (C : Nat) (cs : List Int) (w : World) (ha : Seg w A cs) (hl : cs.length ≤ maxLen) : Calls Tryz.prog 5 #[.slice A cs.length C] w (AtTwo w) := by
  have hb0 : Below w.heap.size w (w.alloc (.cells #[.int .i64 0, .int .i64 0, .slice none 0 0, .slice none 0 0, .slice none 0 0] 29)) := (Below.refl _ w).alloc (Nat.le_refl _) _
  have hR0 : (w.alloc (.cells #[.int .i64 0, .int .i64 0, .slice none 0 0, .slice none 0 0, .slice none 0 0] 29)).heap[w.heap.size]? = some (.cells #[.int .i64 0, .int .i64 0, .slice none 0 0, .slice none 0 0, .slice none 0 0] 29) := heap_alloc_new w _
  have hN := l1New_hs 64 A C cs (w.alloc (.cells #[.int .i64 0, .int .i64 0, .slice none 0 0, .slice none 0 0, .slice none 0 0] 29)) (ha.grow hb0) hl
  simp only [World.size_alloc] at hN
  have HN := hide' hN
  have H0 := hide' (And.intro hb0 hR0)
  clear hN hb0 hR0
  generalize cs.length = cl at *
  go_enter Tryz.func5, Tryz.ntmps5
  go_wp2_with fail
  refine HN.out.mono ?_
  rintro e w1 ⟨rfl, hS1, hB1⟩
  have HB1 : Hid (Below w.heap.size w w1) := hide' ⟨hB1.os.trans H0.out.1.os, hB1.tape.trans H0.out.1.tape, hB1.output.trans H0.out.1.output, by have := hB1.size; simp at this; omega, fun b hb => (hB1.block b (by omega)).trans (H0.out.1.block b hb)⟩
  have HR1 := hide' ((hB1.block w.heap.size (by omega)).trans H0.out.2)
  have HM := hide' (l2map_hs (w.heap.size + 1) 64 _ (w.heap.size + 1) A C cs w1 hS1 (by omega) (by omega))
  have hgl1 := hS1.lt
  clear HN H0 hB1 hS1
  go_wp2_with fail
  refine HM.out.mono ?_
  rintro e w2 ⟨xk, xn, x2, y2, z2, x3, y3, z3, x4, y4, z4, rk2, rfl, hG2, hS2, hT2⟩
  have HR2 := hide' ((hT2.block (by omega) (by omega)).trans HR1.out)
  have HB2 : Hid (Below w.heap.size w w2) := hide' (HB1.out.grown hT2.2.1 HB1.out.size fun k hk => by simp at hk; omega)
  have HB := hide' (l2bent_hs (w.heap.size + 1) 64 3 rk2 (w.heap.size + 1) A C cs xk xn x2 y2 z2 x3 y3 z3 x4 y4 z4 w2 hS2 hG2 (by omega) (by omega))
  have hgl2 := hS2.lt
  clear HM HR1 HB1 hG2 hS2 hT2
  go_wp2_with fail
  refine HB.out.mono ?_
  rintro e w3 ⟨vk, vn, a2, l2, p2, a3, l3, p3, a4, l4, p4, rk3, rfl, hG3, hS3, hB3, _, _⟩
  have hb4 : Below w3.heap.size w3 (w3.alloc (.cells #[.int .i64 vk, .int .i64 vn, .slice a2 l2 p2, .slice a3 l3 p3, .slice a4 l4 p4] 29)) := (Below.refl _ _).alloc (Nat.le_refl _) _
  have hR3 := (hB3.block w.heap.size (by omega)).trans HR2.out
  have hz3 := hB3.size
  have hBW3 : Below w.heap.size w w3 := HB2.out.trans (hB3.mono (by omega))
  have HA : Hid (AtSt (w.heap.size + 1) 65 (rkUp rk3 w3.heap.size 11) (w.heap.size + 1) A C cs w w3.heap.size (.int .i64 vk) (.int .i64 vn) (.slice a2 l2 p2) (.slice a3 l3 p3) (.slice a4 l4 p4) (w3.alloc (.cells #[.int .i64 vk, .int .i64 vn, .slice a2 l2 p2, .slice a3 l3 p3, .slice a4 l4 p4] 29))) := hide' ⟨hS3.below (hS3.1.alloc_v 11 _ _ _ _ _ hG3) hb4, hG3.shp (Shp.alloc w3 _) (rkUp_old rk3 w3.heap.size 11) (Nat.le_refl _), heap_alloc_new _ _, by omega, (hb4.block _ (by omega)).trans hR3, hBW3.trans (hb4.mono hBW3.size)⟩
  generalize rkUp rk3 w3.heap.size 11 = rk4 at *
  clear HB HR2 HB2 hG3 hS3 hB3 hb4 hR3 hBW3
  by_cases h0 : l3 = 0
  · subst h0
    obtain ⟨c0, c1, c2, c3, c4, _⟩ := row5 HA.out.2.2.1
    obtain ⟨s0, s1, s2, s3, s4, sf⟩ := row5 HA.out.2.2.2.2.1
    have sf0 := sf 0
    have sf1 := sf 1
    have sf2 := sf 2
    have sf3 := sf 3
    have sf4 := sf 4
    clear sf
    go_wp2_with fail
    go_region_law (first | (go_simp; go_at_call 16; refine (l3bentPath_hs (w.heap.size + 1) 65 rk4 (w.heap.size + 1) A C cs _ (by exact HA.out.1.heap rfl) (by omega)).mono ?_; rintro e wE ⟨pa, pn, pc, rkE, rfl, hn7, _, hPE⟩; have HX := hide' (HA.out.next (hPE.2.2.1.heap rfl rfl rfl rfl) hPE.2.1); have HP := hide' hPE; clear hPE; obtain ⟨d0, d1, d2, d3, d4, _⟩ := row5 HX.out.2.2.1; obtain ⟨r0, r1, r2, r3, r4, rf⟩ := row5 HX.out.2.2.2.2.1; have rf0 := rf 0; have rf1 := rf 1; have rf2 := rf 2; have rf3 := rf 3; have rf4 := rf 4; clear rf) | fail)
    all_goals go_wp2_with fail
    all_goals
      have hfin := row5 (set5_row (.int .i64 vk) (.int .i64 vn) (.slice a2 l2 p2) (.slice a3 0 p3) (.slice a4 l4 p4) HX.out.2.2.2.2.1)
      simp only [set5, Nat.zero_add] at hfin
      obtain ⟨o0, o1, o2, o3, o4, _⟩ := hfin
      refine bodyPost_ret (v := .tuple #[.agg #[.int .i64 vk, .int .i64 vn, .slice a2 l2 p2, .slice a3 0 p3, .slice a4 l4 p4], .slice pa pn pc]) (by simp [results, Tryz.results5, go_sem, o0, o1, o2, o3, o4]) rfl ?_
      clear o0 o1 o2 o3 o4
      have hE := at_end HX.out HP.out (by omega)
      simp only [set5, Nat.zero_add] at hE
      with_reducible exact hE
  · have hl3 : 0 < l3 := by omega
    have hl3' : (0 : Int) < (l3 : Int) := by omega
    have HO := hide' (l1Once_hs HA.out.1 4 (by omega))
    go_wp2_with fail
    refine HO.out.mono ?_
    rintro e w5 ⟨bo, rfl, hS5, hc5, hsh5⟩
    have HA5 := hide' (HA.out.next (Hst.cus hc5 hsh5) hS5)
    clear HO HA hS5 hc5 hsh5
    generalize w3.heap.size = V at *
    cases bo
    · obtain ⟨gK, ak, lk, pk, rfl, hK0, hKs⟩ := first_key HA5.out.1.1 HA5.out.2.1.2.2.2.1 hl3
      have HKs := hide' hKs
      clear hKs
      obtain ⟨c0, c1, c2, c3, c4, _⟩ := row5 HA5.out.2.2.1
      obtain ⟨_, _, _, c3a, _, _⟩ := box_later HA5.out.2.2.1
      have hK0a : ∀ o, (w5.alloc o).cell? ⟨gK, 0, none⟩ = some (.slice ak lk pk) := fun o => (World.cell?_of_block (a := ⟨gK, 0, none⟩) (Below.heap_alloc w5 o gK (World.block_lt_of_cell? w5 _ hK0))).trans hK0
      have hBw5 := HA5.out.1.base
      have HT6 : Hid (∀ (u : Value) (w6 : World), Sli (w.heap.size + 1) 65 5 1 (fun _ => True) w6 u → Hw (w.heap.size + 1) 65 rk4 w6 → Below w5.heap.size w5 w6 → AtSt (w.heap.size + 1) 65 rk4 (w.heap.size + 1) A C cs w V (.int .i64 vk) (.int .i64 vn) (.slice a2 l2 p2) (.slice (some ⟨gK, 0, none⟩) l3 p3) (.slice a4 l4 p4) w6) := hide' fun u w6 _ h2 h3 => HA5.out.next (Hst.below h3 (Rks.refl _ _)) (HA5.out.1.below h2 h3)
      go_wp2_with (first | (refine wpList_bytes_copy rfl _ _ rfl HA5.out.1.1 hBw5 (by omega) HKs.out rfl rfl ?_; intro u w6 h1 h2 h3; have HA6 := hide' (HT6.out u w6 h1 h2 h3); have HU := hide' h1; obtain ⟨ua, ul, uc, rfl, _⟩ := h1; clear h2 h3) | fail)
      have HP7 := hide' (one_step HA6.out.1 HU.out)
      have HA7 := hide' (HA6.out.next HP7.out.2.2.1 HP7.out.2.1)
      clear HA5 HT6 HKs c0 c1 c2 c3 c4 hK0 hK0a c3a
      obtain ⟨c0, c1, c2, c3, c4, _⟩ := row5 HA7.out.2.2.1
      go_region_law (first | (go_simp; go_at_call 21; refine (l3path_hs (w.heap.size + 1) 65 rk4 (w.heap.size + 1) A C cs _ (by exact HA7.out.1.heap rfl) (by omega)).mono ?_; rintro e w8 ⟨pa, pn, pc, rk8, rfl, hn4, _, hP8⟩; have HB8 := hide' (HP7.out.next (hP8.2.2.1.heap rfl rfl rfl rfl) hP8.2.1); have HS8 := hide' hP8.1; have HA8 := hide' (HA6.out.next HB8.out.2.2.1 HB8.out.2.1); clear hP8; obtain ⟨d80, d81, d82, d83, d84, _⟩ := row5 HA8.out.2.2.1; obtain ⟨r80, r81, r82, r83, r84, r8f⟩ := row5 HA8.out.2.2.2.2.1; have r8f0 := r8f 0; have r8f1 := r8f 1; have r8f2 := r8f 2; have r8f3 := r8f 3; have r8f4 := r8f 4; clear r8f) | (refine step_sps_cat rfl _ _ rfl HB8.out (by omega) HS8.out (Nat.le_refl _) (by omega) rfl rfl ?_; intro a' cap' w9 hP9; have HX := hide' (HA6.out.next hP9.2.2.1 hP9.2.1); have HP := hide' hP9; clear hP9; obtain ⟨d0, d1, d2, d3, d4, _⟩ := row5 HX.out.2.2.1; obtain ⟨r0, r1, r2, r3, r4, rf⟩ := row5 HX.out.2.2.2.2.1; have rf0 := rf 0; have rf1 := rf 1; have rf2 := rf 2; have rf3 := rf 3; have rf4 := rf 4; clear rf) | fail)
      all_goals go_wp2_with fail
      all_goals
        have hfin := row5 (set5_row (.int .i64 vk) (.int .i64 vn) (.slice a2 l2 p2) (.slice (some ⟨gK, 0, none⟩) l3 p3) (.slice a4 l4 p4) HX.out.2.2.2.2.1)
        simp only [set5, Nat.zero_add] at hfin
        obtain ⟨o0, o1, o2, o3, o4, _⟩ := hfin
        refine bodyPost_ret (v := .tuple #[.agg #[.int .i64 vk, .int .i64 vn, .slice a2 l2 p2, .slice (some ⟨gK, 0, none⟩) l3 p3, .slice a4 l4 p4], .slice a' (1 + pn) cap']) (by simp [results, Tryz.results5, go_sem, o0, o1, o2, o3, o4]) rfl ?_
        clear o0 o1 o2 o3 o4
        have hE := at_end HX.out HP.out (by omega)
        simp only [set5, Nat.zero_add] at hE
        with_reducible exact hE
    · obtain ⟨c0, c1, c2, c3, c4, _⟩ := row5 HA5.out.2.2.1
      obtain ⟨s0, s1, s2, s3, s4, sf⟩ := row5 HA5.out.2.2.2.2.1
      have sf0 := sf 0
      have sf1 := sf 1
      have sf2 := sf 2
      have sf3 := sf 3
      have sf4 := sf 4
      clear sf
      go_wp2_with fail
      go_region_law (first | (go_simp; go_at_call 16; refine (l3bentPath_hs (w.heap.size + 1) 65 rk4 (w.heap.size + 1) A C cs _ (by exact HA5.out.1.heap rfl) (by omega)).mono ?_; rintro e wE ⟨pa, pn, pc, rkE, rfl, hn7, _, hPE⟩; have HX := hide' (HA5.out.next (hPE.2.2.1.heap rfl rfl rfl rfl) hPE.2.1); have HP := hide' hPE; clear hPE; obtain ⟨d0, d1, d2, d3, d4, _⟩ := row5 HX.out.2.2.1; obtain ⟨r0, r1, r2, r3, r4, rf⟩ := row5 HX.out.2.2.2.2.1; have rf0 := rf 0; have rf1 := rf 1; have rf2 := rf 2; have rf3 := rf 3; have rf4 := rf 4; clear rf) | fail)
      all_goals go_wp2_with fail
      all_goals
        have hfin := row5 (set5_row (.int .i64 vk) (.int .i64 vn) (.slice a2 l2 p2) (.slice a3 l3 p3) (.slice a4 l4 p4) HX.out.2.2.2.2.1)
        simp only [set5, Nat.zero_add] at hfin
        obtain ⟨o0, o1, o2, o3, o4, _⟩ := hfin
        refine bodyPost_ret (v := .tuple #[.agg #[.int .i64 vk, .int .i64 vn, .slice a2 l2 p2, .slice a3 l3 p3, .slice a4 l4 p4], .slice pa pn pc]) (by simp [results, Tryz.results5, go_sem, o0, o1, o2, o3, o4]) rfl ?_
        clear o0 o1 o2 o3 o4
        have hE := at_end HX.out HP.out (by omega)
        simp only [set5, Nat.zero_add] at hE
        with_reducible exact hE
end Go.Proofs.YteafpgaefphkfaaGreatDoor
/-
  What FnPaths asks besides its draws: a number out of the code; what stands at a path in two steps. No statement is proved here.
-/
namespace Go.Proofs.YteafpgaefphkfaaGreatDoor
open Go.RowKit
set_option linter.unusedVariables false
set_option linter.unusedSimpArgs false

/-- A number of the code. -/
theorem at_any (a : Option Addr) (cap : Nat) (xs : List Int) (w : World) (ha : Seg w a xs) (hl : xs.length ≤ maxLen) :
    Calls Tryz.prog 13 #[.slice a xs.length cap, .int .i64 1] w fun e w' => ∃ x : Int, e = .returned (.int .i64 x) ∧ 0 ≤ x ∧ x ≤ 255 ∧ w = w' := by
  unfold maxLen at hl
  by_cases h0 : xs.length = 0
  · rw [h0]
    go_enter Tryz.func13, Tryz.ntmps13
    go_wp2
    go_ret
    exact ⟨0, rfl, by omega, by omega, rfl⟩
  · by_cases h1 : xs.length = 1
    · obtain ⟨b, off, rfl, hc⟩ := ha.at (k := 0) (by omega)
      have hb := getD_byt ha.1 0
      generalize xs.getD 0 0 = c at hc hb
      rw [h1]
      clear h0 h1 ha hl
      rw [Nat.add_zero] at hc
      go_enter Tryz.func13, Tryz.ntmps13
      go_wp2
      go_ret
      exact ⟨c, by first | rfl | go_num, hb.1, hb.2, rfl⟩
    · obtain ⟨b, off, rfl, hc⟩ := ha.at (k := 1) (by omega)
      have hb := getD_byt ha.1 1
      generalize xs.getD 1 0 = c at hc hb
      generalize xs.length = n at *
      have hn1 : (1 : Int) < (n : Int) := by omega
      have hn0 : ¬ (n : Int) = 0 := by omega
      have hm : (1 : Int) % (n : Int) = 1 := Int.emod_eq_of_lt (by omega) hn1
      have hm2 : (1 : Int).tmod (n : Int) = 1 := by rw [Int.tmod_eq_emod_of_nonneg (by omega)]; exact hm
      go_enter Tryz.func13, Tryz.ntmps13
      go_wp2
      go_ret
      exact ⟨c, by first | rfl | go_num, hb.1, hb.2, rfl⟩

theorem pcI_swap (l m : List Stp) : pcI m l = - pcI l m := by
  unfold pcI
  rw [pthC_swap l m]
  by_cases h1 : pathB l = true
  · by_cases h2 : pathB m = true
    · simp [h1, h2]
    · simp [h1, h2]
  · simp [h1]
theorem stpC_bound (s t : Stp) : -1 ≤ stpC s t ∧ stpC s t ≤ 1 := by
  have hb := bytesC_cases s.2.1 t.2.1
  unfold stpC numC
  repeat' split
  all_goals omega
theorem pthC_bound : ∀ (l m : List Stp), -1 ≤ pthC l m ∧ pthC l m ≤ 1
  | [], [] => ⟨by show (-1 : Int) ≤ 0; omega, by show (0 : Int) ≤ 1; omega⟩
  | [], _ :: _ => ⟨by show (-1 : Int) ≤ -1; omega, by show (-1 : Int) ≤ 1; omega⟩
  | _ :: _, [] => ⟨by show (-1 : Int) ≤ 1; omega, by show (1 : Int) ≤ 1; omega⟩
  | s :: l, t :: m => by
    show -1 ≤ (if stpC s t ≠ 0 then stpC s t else pthC l m) ∧ (if stpC s t ≠ 0 then stpC s t else pthC l m) ≤ 1
    split
    · exact stpC_bound s t
    · exact pthC_bound l m
theorem pcI_bound (l m : List Stp) : -1 ≤ pcI l m ∧ pcI l m ≤ 1 := by
  unfold pcI
  split
  · exact pthC_bound l m
  · omega
end Go.Proofs.YteafpgaefphkfaaGreatDoor
