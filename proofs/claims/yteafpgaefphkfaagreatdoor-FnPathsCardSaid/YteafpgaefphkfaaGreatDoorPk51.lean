/-
  Texts that a law leans on, one behind the other; no statement is proved here.
-/
import Derived.Test.YteafpgaefphkfaaGreatDoorPk50
import Derived.Test.YteafpgaefphkfaaGreatDoorPk47
import Derived.Test.YteafpgaefphkfaaGreatDoorPk2
import Derived.Test.YteafpgaefphkfaaGreatDoorPk49
import Derived.Deep.RegionLaw
import Derived.Test.YteafpgaefphkfaaGreatDoorPk34
import Derived.Test.YteafpgaefphkfaaGreatDoorPk0
/-
  Two values that are drawn to be held against each other. No statement is proved here.
-/
namespace Go.Proofs.YteafpgaefphkfaaGreatDoor
open Go.RowKit
set_option linter.unusedVariables false
set_option linter.unusedSimpArgs false

set_option maxHeartbeats 800000 in
theorem l1New_one (a : Option Addr) (cap : Nat) (xs : List Int) (w : World) (ha : Seg w a xs) (hl : xs.length ≤ maxLen) :
    Calls Tryz.prog 15 #[.slice a xs.length cap] w fun e w' => e = .returned (.pointer (some ⟨w.heap.size, 0, none⟩)) ∧ Cur w' w.heap.size a xs.length cap ∧ Below w.heap.size w w' ∧ w'.heap.size = w.heap.size + 1 := by
  unfold maxLen at hl
  generalize hn : xs.length = n at *
  have Hn : Hid (xs.length = n) := hn
  clear hn
  go_enter Tryz.func15, Tryz.ntmps15
  go_wp2
  go_loopw [3, 4] (fun h i wr => ∃ (k : Nat) (hv : Int), k ≤ n ∧ k ≤ 4000 ∧ i = .int .i64 k ∧ h = .int .i64 hv ∧ wr = w) (fun _ i _ => n - (intOf i).toNat)
  case atStart => exact ⟨0, _, Nat.zero_le _, Nat.zero_le _, rfl, rfl, rfl⟩
  case round =>
    obtain ⟨k, hv, hk, hk4, rfl, rfl, rfl⟩ := hrel
    by_cases hlt : k < n ∧ k < 4000
    · obtain ⟨hlt1, hlt2⟩ := hlt
      have hlt1' : (k : Int) < (n : Int) := by omega
      have hlt2' : (k : Int) < 4000 := by omega
      obtain ⟨b, off, rfl, hc⟩ := ha.at (k := k) (by have := Hn.out; omega)
      generalize xs.getD k 0 = c at hc
      go_wp2
      go_roundw
      case rel => exact ⟨k + 1, _, by omega, by omega, by go_num, by first | exact ⟨rfl, rfl⟩ | exact ⟨rfl, trivial⟩⟩
      case measure => simp [intOf]; omega
    · by_cases h1 : (k : Int) < (n : Int)
      · have h2 : ¬ (k : Int) < 4000 := by omega
        clear hlt
        go_wp2
        go_ret
        exact ⟨rfl, ⟨0, hv, heap_alloc_new _ _, Nat.zero_le _⟩, (Below.refl _ _).alloc (Nat.le_refl _) _, by simp⟩
      · clear hlt
        go_wp2
        go_ret
        exact ⟨rfl, ⟨0, hv, heap_alloc_new _ _, Nat.zero_le _⟩, (Below.refl _ _).alloc (Nat.le_refl _) _, by simp⟩

/-- A cursor is made: nothing else lies from there on. -/
theorem l1New_hs (M : Nat) (a : Option Addr) (cap : Nat) (xs : List Int) (w : World) (ha : Seg w a xs) (hl : xs.length ≤ maxLen) :
    Calls Tryz.prog 15 #[.slice a xs.length cap] w fun e w' => e = .returned (.pointer (some ⟨w.heap.size, 0, none⟩)) ∧ Hs w.heap.size M (fun _ => 0) w' w.heap.size a cap xs ∧ Below w.heap.size w w' := by
  refine (l1New_one a cap xs w ha hl).mono ?_
  rintro e w' ⟨rfl, hc, hb, hz⟩
  refine ⟨rfl, ⟨fun g hg cur T fr hh => ?_, ⟨ha.grow hb, hl, hc, fun x hx he => by have := ha.lt x hx he; omega⟩, Nat.le_refl _, fun x hx he => ha.lt x hx he⟩, hb⟩
  have hl := (Array.getElem?_eq_some_iff.1 hh).1
  obtain rfl : g = w.heap.size := by omega
  have := hc.type hh
  exact ⟨fun h => absurd (.inl h) this, fun h => absurd (.inr (.inl h)) this, fun h => absurd (.inr (.inr h)) this⟩

end Go.Proofs.YteafpgaefphkfaaGreatDoor
/-
  DrawPathCmp of the specification: two paths that can be read. No statement is proved here.
-/
namespace Go.Proofs.YteafpgaefphkfaaGreatDoor
open Go.RowKit
set_option linter.unusedVariables false
set_option linter.unusedSimpArgs false

/-- A slice that reads as a path of n steps. -/
def RdP (w : World) (x : Value) (n : Nat) : Prop := ∃ l : List Stp, l.length = n ∧ PthSeg (fun b => b < w.heap.size) w x l

section
variable {B M : Nat} {rk rkr rk5 : Nat → Nat} {g : Nat} {A : Option Addr} {C : Nat} {cs : List Int} {w wr w5 : World} {a : Option Addr} {n cap : Nat}

theorem PdSt.base (h : PdSt B M rk g A C cs w rkr wr a n cap) : B ≤ w.heap.size := by have := h.2.1.2.2.1; have := h.2.2.2; omega
theorem PdSt.rd (h : PdSt B M rk g A C cs w rkr wr a n cap) : RdP wr (.slice a n cap) n := by
  obtain ⟨l, hl, hp⟩ := h.1.path h.2.1.1 h.base
  exact ⟨l, hl, hp.mono fun b hb => hb.2⟩
theorem RdP.on {x : Value} (h : RdP w x n) (hb : Below w.heap.size w w5) : RdP w5 x n := by
  obtain ⟨l, hl, hp⟩ := h
  exact ⟨l, hl, (hp.agree (agree_below hb)).mono fun b hb' => by have := hb.size; omega⟩

theorem owns_none (B : Nat) (q off : Nat) (ty : TypeId) (x : Value) (w : World) (hx : ∃ n0 cap0, x = .slice (some ⟨q, off, none⟩) n0 cap0 ∧ n0 ≤ cap0 ∧ cap0 ≤ maxLen) : (Builtin.append_ #[23, 23] ty #[x, .slice none 0 0]).run Tryz.prog w = .ok x w := by
  obtain ⟨n0, cap0, rfl, h1, h2⟩ := hx
  obtain ⟨i, hi, hz0, hz1, hz2⟩ := info_parts infoSt
  have ht : Tryz.prog.underlying 23 = some (.slice 50) := Tryz.underlying23
  simp [Builtin.append_, run_underlying ht, sizeOf, typeInfo, hi, Builtin.lenOf, h1, Builtin.firstCells, storeCells]

/-- 'append(p, q[:k]...)'. -/
theorem PdSt.cat {q off n0 cap0 L k : Nat} (h : PdSt B M rk g A C cs w rkr w5 (some ⟨q, off, none⟩) n0 cap0) (hn0 : n0 ≤ 1000) (hs : SpS B M L w5 a n cap) (hk : k ≤ n) (hn : n ≤ 1000) (ty : TypeId) :
    ∃ (a' : Option Addr) (cap' : Nat) (w' : World), (Builtin.append_ #[23, 23] ty #[.slice (some ⟨q, off, none⟩) n0 cap0, .slice a k cap]).run Tryz.prog w5 = .ok (.slice a' (n0 + k) cap') w' ∧ PdSt B M rk g A C cs w rkr w' a' (n0 + k) cap' := by
  have hz := h.2.2.1.2.1.size
  obtain ⟨s1, s2, ⟨rfl, rfl⟩ | ⟨gq, oq, cur, rfl, hL, hg, hc, ht⟩⟩ := hs
  · obtain rfl : k = 0 := by omega
    exact ⟨_, _, w5, owns_none B q off ty _ w5 ⟨n0, cap0, rfl, h.1.1, h.1.2.1⟩, h⟩
  · obtain ⟨g', off', cap', w', hr, hs', hg'⟩ := sps_app w5 ty B M w.heap.size _ n0 cap0 h.1 (by omega) ⟨gq, oq, none⟩ k cap ((((cur.toList.drop oq).take (n * 3))).take (k * 3)) (ht.take hk) (fun j u hu => by
        have hj := (List.getElem?_eq_some_iff.1 hu).1
        have hj2 : j < k * 3 ∧ j < n * 3 := by simp only [List.length_take] at hj; omega
        rw [List.getElem?_take, if_pos hj2.1, List.getElem?_take, if_pos hj2.2, List.getElem?_drop, Array.getElem?_toList] at hu
        rw [Addr.add_lit, cell_of_row w5 gq _ cur _ (0, 0) hg, hu]) (fun h => by simp at h) (by omega) hz
    exact ⟨_, cap', w', hr, h.grow hs' hg'⟩

theorem wpList_sps_cat {q off n0 cap0 L k : Nat} {ops : Array Oper} {rest : List Oper} {o : Oper} {ac : Act} {Q : Exit → Act → World → Prop} (hgd : o.guard = none) (s x : Operand) (ho : o.op = .call { callee := .builtin .append, args := #[s, x], argTypes := #[23, 23] })
    (h : PdSt B M rk g A C cs w rkr w5 (some ⟨q, off, none⟩) n0 cap0) (hn0 : n0 ≤ 1000) (hS : SpS B M L w5 a n cap) (hk : k ≤ n) (hn : n ≤ 1000) (hs : ac.eval s = .slice (some ⟨q, off, none⟩) n0 cap0) (hx : ac.eval x = .slice a k cap)
    (hK' : ∀ (a' : Option Addr) (cap' : Nat) (w' : World), PdSt B M rk g A C cs w rkr w' a' (n0 + k) cap' → wpList Tryz.prog ops Q rest (ac.put o.dst (.slice a' (n0 + k) cap')) w') : wpList Tryz.prog ops Q (o :: rest) ac w5 := by
  refine wpList_plain hgd fun K hK => ?_
  obtain ⟨a', cap', w', hrun, hP⟩ := h.cat hn0 hS hk hn o.type
  unfold Oper.wp execOp
  simp only [ho, resolve, invoke, builtin, Sem.run_bind, Sem.run_pure, Result.andThen_ok, List.map_toArray, List.map_cons, List.map_nil, hs, hx, hrun]
  exact hK _ _ (hK' a' cap' w' hP)

/-- A row without steps, just made. -/
theorem PdSt.empty (hS : Hs B M rkr wr g A C cs) (hT : Hst rk w rkr wr g) (hg : g < w.heap.size) : PdSt B M rk g A C cs w rkr (wr.alloc (.cells #[] 50)) (some ⟨wr.heap.size, 0, none⟩) 0 0 := by
  have hb : Below wr.heap.size wr (wr.alloc (.cells #[] 50)) := (Below.refl _ _).alloc (Nat.le_refl _) _
  exact ⟨⟨Nat.le_refl _, Nat.zero_le _, .inr ⟨wr.heap.size, 0, #[], rfl, hT.2.1.size, heap_alloc_new _ _, rfl, rfl, fun j hj => by omega⟩⟩, hS.below (hS.1.alloc_other _ _ _ (by decide)) hb, hT.trans (Hst.below hb (Rks.refl _ _)), hg⟩
end

/-- Two paths that can be read. -/
def PthTwo (w : World) (e : Ending) (w' : World) : Prop :=
  ∃ (a1 : Option Addr) (n1 c1 : Nat) (a2 : Option Addr) (n2 c2 : Nat), e = .returned (.tuple #[.slice a1 n1 c1, .slice a2 n2 c2]) ∧ RdP w' (.slice a1 n1 c1) n1 ∧ RdP w' (.slice a2 n2 c2) n2 ∧ n1 ≤ 7 ∧ n2 ≤ 7 ∧ Below w.heap.size w w'

theorem below_hst {rk rk' : Nat → Nat} {w w1 w2 : World} {g : Nat} (h : Below w.heap.size w w1) (hT : Hst rk w1 rk' w2 g) (hg : w.heap.size ≤ g) : Below w.heap.size w w2 := h.grown hT.2.1 h.size fun k hk => by simp at hk; omega

set_option maxHeartbeats 3200000 in
set_option maxRecDepth 100000 in
theorem DrawPathCmp_any (A : Option Addr) (C : Nat) (cs : List Int) (w : World) (ha : Seg w A cs) (hl : cs.length ≤ maxLen) : Calls Tryz.prog 4 #[.slice A cs.length C] w (PthTwo w) := by
  have HN := hide' (l1New_hs 64 A C cs w ha hl)
  generalize cs.length = cl at *
  go_enter Tryz.func4, Tryz.ntmps4
  go_wp2_with fail
  refine HN.out.mono ?_
  rintro e w1 ⟨rfl, hS1, hB1⟩
  have HB1 := hide' hB1
  have HP := hide' (l3bentPath_hs _ 64 _ _ _ _ _ w1 hS1 (by omega))
  clear HN hS1 hB1
  go_wp2_with fail
  refine HP.out.mono ?_
  rintro e w2 ⟨a, n, cap, rk2, rfl, hn7, _, hP2⟩
  have HB2 := hide' (below_hst HB1.out hP2.2.2.1 (Nat.le_refl _))
  have HP2 := hide' hP2
  have HO := hide' (l1Once_hs hP2.2.1 3 (by omega))
  clear HP hP2
  go_wp2_with fail
  refine HO.out.mono ?_
  rintro e w3 ⟨bo, rfl, hS3, hc3, hsh3⟩
  have HP3 := hide' (HP2.out.next (Hst.cus hc3 hsh3) hS3)
  have HB3 := hide' (below_hst HB2.out (Hst.cus (rk := rk2) hc3 hsh3) (Nat.le_refl _))
  clear HO HP2 HB2 hS3 hc3 hsh3
  cases bo
  · have HP := hide' (l3bentPath_hs _ 64 _ _ _ _ _ w3 HP3.out.2.1 (by omega))
    go_wp2_with fail
    refine HP.out.mono ?_
    rintro e w4 ⟨a4, n4, cap4, rk4, rfl, hn47, _, hP4⟩
    have HR := hide' (And.intro (HP3.out.next hP4.2.2.1 hP4.2.1).rd (And.intro hP4.rd (below_hst HB3.out hP4.2.2.1 (Nat.le_refl _))))
    clear HP HP3 HB3 hP4
    go_wp2_with fail
    refine bodyPost_ret (v := .tuple #[.slice a n cap, .slice a4 n4 cap4]) (by simp [results, Tryz.results4, go_sem]) rfl ?_
    exact ⟨a, n, cap, a4, n4, cap4, rfl, HR.out.1, HR.out.2.1, hn7, hn47, HR.out.2.2⟩
  · have hE := PdSt.empty HP3.out.2.1 (Hst.refl rk2 w3 _) HP3.out.2.1.lt
    have HL := hide' (l1Below_hs hE.2.1 ((n : Int) + 1) (by omega))
    have HE := hide' hE
    have hn1 : IntKind.i64.wrap ((n : Int) + 1) = (n : Int) + 1 := by rw [IntKind.wrap_i64]; omega
    have hnc : n ≤ cap := HP3.out.1.1
    have hcm : cap ≤ maxLen := HP3.out.1.2.1
    have hnone : a = none → cap = 0 := by
      obtain ⟨_, _, ⟨_, h⟩ | ⟨_, _, _, h, _⟩⟩ := HP3.out.1
      · exact fun _ => h
      · intro h'; rw [h] at h'; simp at h'
    unfold maxLen at hcm
    clear hE
    go_wp2_with fail
    refine HL.out.mono ?_
    rintro e w5 ⟨x, rfl, hx0, hx1, _, hS5, hc5, hsh5⟩
    obtain ⟨k, rfl⟩ : ∃ k : Nat, x = k := ⟨x.toNat, by omega⟩
    have hk : k ≤ n := by have := hx1 (by omega); omega
    have hkc : k ≤ cap := by omega
    have HE5 := hide' (HE.out.next (Hst.cus hc5 hsh5) hS5)
    have HA5 := hide' (HP3.out.next HE5.out.2.2.1 HE5.out.2.1)
    clear HL HE hx1 hx0 hS5 hc5 hsh5
    have hEnd : ∀ (a' : Option Addr) (cap' : Nat) (w6 : World), PdSt w.heap.size 64 rk2 w.heap.size A C cs w3 rk2 w6 a' (0 + k) cap' → PthTwo w (.returned (.tuple #[.slice a n cap, .slice a' k cap'])) w6 := by
      intro a' cap' w6 hP6
      rw [Nat.zero_add] at hP6
      exact ⟨a, n, cap, a', k, cap', rfl, (HP3.out.next hP6.2.2.1 hP6.2.1).rd, hP6.rd, hn7, by omega, below_hst HB3.out hP6.2.2.1 (Nat.le_refl _)⟩
    have HEnd := hide' hEnd
    clear hEnd HP3 HB3 HB1
    rcases a with _ | ⟨gb, go, gs⟩
    · have hc0 := hnone rfl
      subst hc0
      obtain rfl : k = 0 := by omega
      obtain rfl : n = 0 := by omega
      go_wp2_with (first | (refine wpList_sps_cat rfl _ _ rfl HE5.out (by omega) HA5.out.1 (Nat.le_refl _) (by omega) rfl rfl ?_; intro a' cap' w6 hP6; have HP6 := hide' (HEnd.out a' cap' w6 hP6); clear hP6) | fail)
      refine bodyPost_ret (v := .tuple #[.slice none 0 0, .slice a' 0 cap']) (by simp [results, Tryz.results4, go_sem]) rfl ?_
      exact HP6.out
    · go_wp2_with (first | (refine wpList_sps_cat rfl _ _ rfl HE5.out (by omega) HA5.out.1 hk (by omega) rfl rfl ?_; intro a' cap' w6 hP6; have HP6 := hide' (HEnd.out a' cap' w6 hP6); clear hP6) | fail)
      refine bodyPost_ret (v := .tuple #[.slice (some ⟨gb, go, gs⟩) n cap, .slice a' k cap']) (by simp [results, Tryz.results4, go_sem]) rfl ?_
      exact HP6.out
end Go.Proofs.YteafpgaefphkfaaGreatDoor
/-
  Two values that are drawn to be held against each other. No statement is proved here.
-/
namespace Go.Proofs.YteafpgaefphkfaaGreatDoor
open Go.RowKit
set_option linter.unusedVariables false
set_option linter.unusedSimpArgs false

/-- Five cells can be read, all in blocks from B on. -/
def RdF (B : Nat) (w : World) (c : Value × Value × Value × Value × Value) : Prop := ∃ D, ∃ v : Vl D, VSeg (From B w) w D c v
/-- Five cells can be read. -/
def Rd (w : World) (c : Value × Value × Value × Value × Value) : Prop := ∃ D, ∃ v : Vl D, VSeg (fun b => b < w.heap.size) w D c v

theorem RdF.on {B : Nat} {w w' : World} {c : Value × Value × Value × Value × Value} (h : RdF B w c) (ha : ∀ b, B ≤ b → b < w.heap.size → w'.heap[b]? = w.heap[b]?) (hz : w.heap.size ≤ w'.heap.size) : RdF B w' c := by
  obtain ⟨D, v, hv⟩ := h
  exact ⟨D, v, VSeg.mono (fun b hb => ⟨hb.1, Nat.lt_of_lt_of_le hb.2 hz⟩) D (VSeg.agree (fun b hb => ha b hb.1 hb.2) D hv)⟩
theorem RdF.rd {B : Nat} {w : World} {c : Value × Value × Value × Value × Value} (h : RdF B w c) : Rd w c := by
  obtain ⟨D, v, hv⟩ := h
  exact ⟨D, v, VSeg.mono (fun b hb => hb.2) D hv⟩
theorem Rd.on {w w' : World} {c : Value × Value × Value × Value × Value} (h : Rd w c) (hb : Below w.heap.size w w') : Rd w' c := by
  obtain ⟨D, v, hv⟩ := h
  have hz := hb.size
  exact ⟨D, v, VSeg.mono (fun b hb => by omega) D (VSeg.agree (agree_below hb) D hv)⟩
theorem Hs.rd {B M M' r : Nat} {rk : Nat → Nat} {w : World} {g : Nat} {a : Option Addr} {cap : Nat} {cs : List Int} {c : Value × Value × Value × Value × Value} (h : Hs B M rk w g a cap cs) (hG : Grp B M' rk r w c) (hM : M ≤ M') : RdF B w c := by
  obtain ⟨v, hv⟩ := h.1.val hM r c hG
  exact ⟨_, v, hv⟩

theorem set5_row {w : World} {g : Nat} {z0 z1 z2 z3 z4 : Value} (c0 c1 c2 c3 c4 : Value) (h : w.heap[g]? = some (.cells #[z0, z1, z2, z3, z4] 29 (0, 0))) : (set5 w g 0 c0 c1 c2 c3 c4).heap[g]? = some (.cells #[c0, c1, c2, c3, c4] 29 (0, 0)) := by
  have e := set5_heap (j := 0) c0 c1 c2 c3 c4 h
  rw [show arrSet5 #[z0, z1, z2, z3, z4] 0 c0 c1 c2 c3 c4 = #[c0, c1, c2, c3, c4] from rfl] at e
  exact e
section
variable {w wz : World} {ak an : Int} {a2 : Option Addr} {l2 p2 : Nat} {a3 : Option Addr} {l3 p3 : Nat} {a4 : Option Addr} {l4 p4 : Nat} {bk bn : Int} {b2 : Option Addr} {m2 q2 : Nat} {b3 : Option Addr} {m3 q3 : Nat} {b4 : Option Addr} {m4 q4 : Nat} {z0 z1 z2 z3 z4 y0 y1 y2 y3 y4 : Value} {R1 R2 : Nat}
theorem set5_same (w : World) (g j : Nat) (c0 c1 c2 c3 c4 : Value) : (set5 w g j c0 c1 c2 c3 c4).os = w.os ∧ (set5 w g j c0 c1 c2 c3 c4).tape = w.tape ∧ (set5 w g j c0 c1 c2 c3 c4).output = w.output ∧ (set5 w g j c0 c1 c2 c3 c4).heap.size = w.heap.size := ⟨(set5_grown w g j c0 c1 c2 c3 c4).os, (set5_grown w g j c0 c1 c2 c3 c4).tape, (set5_grown w g j c0 c1 c2 c3 c4).output, set5_size w g j c0 c1 c2 c3 c4⟩
end

theorem Below.on2 {N : Nat} {w w1 w2 : World} (h : Below N w w1) (k : Below w1.heap.size w1 w2) (hN : N ≤ w1.heap.size := by first | exact h.size | omega) : Below N w w2 := h.trans (k.mono hN)

end Go.Proofs.YteafpgaefphkfaaGreatDoor
/-
  Values that stand: their boxes, and that they are read, in every later world; an answer that was laid into a box. No statement is proved here.
-/
namespace Go.Proofs.YteafpgaefphkfaaGreatDoor
open Go.RowKit
set_option linter.unusedVariables false
set_option linter.unusedSimpArgs false

/-- .. and as they lie in a box. -/
abbrev bx (c : Value × Value × Value × Value × Value) : Obj := .cells #[c.1, c.2.1, c.2.2.1, c.2.2.2.1, c.2.2.2.2] 29 (0, 0)

/-- A value that stands: its box, and that it is read, in every later world. -/
structure Std (D : Nat) (W : World) (g : Nat) (c : Value × Value × Value × Value × Value) (v : Vl D) : Prop where
  row : ∀ wx, Below W.heap.size W wx → wx.heap[g]? = some (bx c)
  seg : ∀ wx, Below W.heap.size W wx → VSeg (fun b => b < W.heap.size) wx D c v
theorem Std.of {D : Nat} {W : World} {g : Nat} {c : Value × Value × Value × Value × Value} {v : Vl D} (h : W.heap[g]? = some (bx c)) (hv : VSeg (fun b => b < W.heap.size) W D c v) : Std D W g c v :=
  ⟨fun wx hb => (hb.block g (Array.getElem?_eq_some_iff.1 h).1).trans h, fun wx hb => VSeg.agree (agree_below hb) D hv⟩
theorem Std.on {D : Nat} {W W' : World} {g : Nat} {c : Value × Value × Value × Value × Value} {v : Vl D} (h : Std D W g c v) (hb : Below W.heap.size W W') : Std D W' g c v :=
  Std.of (h.row W' hb) (VSeg.mono (fun b hb' => Nat.lt_of_lt_of_le hb' hb.size) D (h.seg W' hb))

/-- A box that ValGet's answer was laid into, behind all that was there. -/
def Got (D : Nat) (W : World) (f : Option (Vl D)) (g : Nat) (c : Value × Value × Value × Value × Value) (w' : World) : Prop :=
  Below W.heap.size W w' ∧ W.heap.size ≤ g ∧ w'.heap[g]? = some (bx c) ∧ ∀ x, f = some x → VSeg (fun b => b < w'.heap.size) w' D c x
theorem got_store {D g n : Nat} {W V : World} {f : Option (Vl D)} {c0 c1 c2 c3 c4 : Value} (hb : Below W.heap.size W V) (hg : W.heap.size ≤ g) (hr : V.heap[g]? = some (.cells #[.int .i64 0, .int .i64 0, .slice none 0 0, .slice none 0 0, .slice none 0 0] 29 (0, 0))) (hv : ∀ x, f = some x → VSeg (fun b => n ≤ b ∧ b < V.heap.size ∧ b ≠ g) V D (c0, c1, c2, c3, c4) x) :
    Got D W f g (c0, c1, c2, c3, c4) (set5 V g 0 c0 c1 c2 c3 c4) := by
  have hs := set5_grown V g 0 c0 c1 c2 c3 c4
  have hz := set5_size V g 0 c0 c1 c2 c3 c4
  have ho := set5_other V g 0 c0 c1 c2 c3 c4
  refine ⟨hb.grown hs hb.size (by intro j hj; simp at hj; omega), hg, set5_row c0 c1 c2 c3 c4 hr, fun x hx => ?_⟩
  exact VSeg.mono (fun b hb => by rw [hz]; exact hb.2.1) D (VSeg.agree (fun b hb => ho b hb.2.2) D (hv x hx))
theorem Got.std {D g : Nat} {W w' : World} {x : Vl D} {f : Option (Vl D)} {c : Value × Value × Value × Value × Value} (h : Got D W f g c w') (hf : f = some x) : Std D w' g c x := Std.of h.2.2.1 (h.2.2.2 x hf)
/-- Behind a call, when the box was made behind it .. -/
theorem gt_new {D n : Nat} {V : World} {f : Option (Vl D)} {c : Value × Value × Value × Value × Value} (o : Obj) (h : ∀ x, f = some x → VSeg (fun b => n ≤ b ∧ b < V.heap.size) V D c x) : ∀ x, f = some x → VSeg (fun b => n ≤ b ∧ b < (V.alloc o).heap.size ∧ b ≠ V.heap.size) (V.alloc o) D c x := fun x hx =>
  VSeg.mono (fun b hb => ⟨hb.1, by simp; omega, by omega⟩) D (VSeg.agree (fun b hb => Below.heap_alloc V o b hb.2) D (h x hx))
/-- .. and when it was made ahead of it. -/
theorem gt_old {D n g : Nat} {V : World} {f : Option (Vl D)} {c : Value × Value × Value × Value × Value} (h : ∀ x, f = some x → VSeg (fun b => n ≤ b ∧ b < V.heap.size) V D c x) (hg : g < n) : ∀ x, f = some x → VSeg (fun b => n ≤ b ∧ b < V.heap.size ∧ b ≠ g) V D c x := fun x hx =>
  VSeg.mono (fun b hb => ⟨hb.1, hb.2, by omega⟩) D (h x hx)

/-- An answer that was laid into a box: it stands. -/
theorem Std.box {D : Nat} {W w' : World} {v : Vl D} {c : Value × Value × Value × Value × Value} (hb : Below W.heap.size W w') (hv : VSeg (fun b => b < w'.heap.size) w' D c v) : Std D (w'.alloc (bx c)) w'.heap.size c v ∧ Below W.heap.size W (w'.alloc (bx c)) := by
  have hbm : Below w'.heap.size w' (w'.alloc (bx c)) := (Below.refl _ _).alloc (Nat.le_refl _) _
  exact ⟨Std.of (heap_alloc_new w' _) (VSeg.mono (fun b hb => Nat.lt_of_lt_of_le hb hbm.size) _ (VSeg.agree (agree_below hbm) _ hv)), Below.on2 hb hbm hb.size⟩

end Go.Proofs.YteafpgaefphkfaaGreatDoor
/-
  What the law FnOrder hands its draws and verdicts through: more, num, sameBytes, same. No statement is proved here.
-/
namespace Go.Proofs.YteafpgaefphkfaaGreatDoor
open Go.RowKit
set_option linter.unusedVariables false
set_option linter.unusedSimpArgs false

set_option maxHeartbeats 400000 in
theorem sameBy_any (a b : Option Addr) (c1 c2 : Nat) (xs ys : List Int) (w : World) (ha : Seg w a xs) (hb : Seg w b ys) :
    Calls Tryz.prog 8 #[.slice a xs.length c1, .slice b ys.length c2] w fun e w' => e = .returned (.bool (decide (xs = ys))) ∧ w = w' := by
  have h1 := conv_seg c1 ha
  have h2 := conv_seg c2 hb
  have HE := hide' (strOf_eq ha.1 hb.1)
  generalize xs.length = n at *
  generalize ys.length = m at *
  go_enter Tryz.func8, Tryz.ntmps8
  go_wp2
  go_ret
  exact ⟨ret_bool HE.out, rfl⟩

/-- Both may be, and have the same bytes. -/
def sameV (d : Nat) (a b : Vl d) : Bool := okB d a && okB d b && decide (valBytes d a = valBytes d b)

set_option maxHeartbeats 800000 in
theorem same_any (d N : Nat) (c0 c1 c2 c3 c4 e0 e1 e2 e3 e4 : Value) (a b : Vl d) (w : World) (ha : VSeg (fun b => b < N) w d (c0, c1, c2, c3, c4) a) (hb : VSeg (fun b => b < N) w d (e0, e1, e2, e3, e4) b) (hN : N ≤ w.heap.size) :
    Calls Tryz.prog 14 #[.agg #[c0, c1, c2, c3, c4], .agg #[e0, e1, e2, e3, e4]] w fun e w' => e = .returned (.bool (sameV d a b)) ∧ Below w.heap.size w w' := by
  have Hb2 : Hid (∀ o o' : Obj, Below w.heap.size w ((w.alloc o).alloc o')) := fun o o' => ((Below.refl _ _).alloc (Nat.le_refl _) o).alloc (by simp) o'
  have Hr : Hid (∀ (o o' : Obj) (wx : World), Below ((w.alloc o).alloc o').heap.size ((w.alloc o).alloc o') wx → wx.heap[w.heap.size]? = some o ∧ wx.heap[w.heap.size + 1]? = some o') := fun o o' wx h => rows2 h
  have H1 : Hid (∀ wx, Below w.heap.size w wx → Calls Tryz.prog 31 #[.agg #[c0, c1, c2, c3, c4]] wx (ByEnd d a wx)) := fun wx h =>
    spec_ValBytes_any d N _ _ _ _ _ a wx (VSeg.agree (agree_below (h.mono hN)) d ha) (by have := h.size; omega)
  have H2 : Hid (∀ wx, Below w.heap.size w wx → Calls Tryz.prog 31 #[.agg #[e0, e1, e2, e3, e4]] wx (ByEnd d b wx)) := fun wx h =>
    spec_ValBytes_any d N _ _ _ _ _ b wx (VSeg.agree (agree_below (h.mono hN)) d hb) (by have := h.size; omega)
  clear ha hb
  go_enter Tryz.func14, Tryz.ntmps14
  go_wp2_with fail
  have HB0 := hide' (Hb2.out (.cells #[c0, c1, c2, c3, c4] 29) (.cells #[e0, e1, e2, e3, e4] 29))
  have HR0 := hide' (Hr.out (.cells #[c0, c1, c2, c3, c4] 29) (.cells #[e0, e1, e2, e3, e4] 29))
  refine (H1.out _ (by exact HB0.out)).mono ?_
  rintro e w1 ⟨p1, n1, q1, rfl, hB1, hb1⟩
  have HB1 := hide' (HB0.out.trans (hb1.mono (by simp <;> omega)))
  obtain ⟨hx, hy⟩ := HR0.out w1 hb1
  obtain ⟨o0, o1, o2, o3, o4, _⟩ := row5 hy
  have HS1 := hide' (Bts.seg hB1)
  have HN1 : Hid (n1 = (valBytes d a).length) := hide' (by obtain ⟨_, _, he, _⟩ := hB1.shape; simp at he; exact he.2.1)
  clear hb1 hB1 HB0 HR0 hx hy
  generalize hka : okB d a = ka at *
  go_wp2_with fail
  refine (H2.out _ (by exact HB1.out)).mono ?_
  rintro e w2 ⟨p2, n2, q2, rfl, hB2, hb2⟩
  have HB2 := hide' (Below.on2 HB1.out hb2 HB1.out.size)
  have HS2 := hide' (Bts.seg hB2)
  have HN2 : Hid (n2 = (valBytes d b).length) := hide' (by obtain ⟨_, _, he, _⟩ := hB2.shape; simp at he; exact he.2.1)
  have HC := hide' (sameBy_any p1 p2 q1 q2 (valBytes d a) (valBytes d b) w2 (HS1.out.grow hb2) HS2.out)
  have HT1 : Hid (okB d a = ka) := hide' hka
  generalize hkb : okB d b = kb at *
  have HT2 : Hid (okB d b = kb) := hide' hkb
  rw [← HN1.out, ← HN2.out] at HC
  clear hb2 hB2 HB1 HS1 HS2 HN1 HN2 hka hkb H1 H2 Hb2 Hr
  cases ka
  · go_wp2_with fail
    go_ret
    exact ⟨ret_bool (by simp [sameV, HT1.out]), HB2.out⟩
  · cases kb
    · go_wp2_with fail
      go_ret
      exact ⟨ret_bool (by simp [sameV, HT2.out]), HB2.out⟩
    · go_wp2_with fail
      refine HC.out.mono ?_
      rintro e w3 ⟨rfl, rfl⟩
      generalize hdb : decide (valBytes d a = valBytes d b) = bo at *
      have HD := hide' hdb
      clear hdb
      go_wp2_with fail
      go_ret
      exact ⟨ret_bool (by have := HD.out; have h1 := HT1.out; have h2 := HT2.out; simp [sameV, h1, h2, this]), HB2.out⟩
end Go.Proofs.YteafpgaefphkfaaGreatDoor
