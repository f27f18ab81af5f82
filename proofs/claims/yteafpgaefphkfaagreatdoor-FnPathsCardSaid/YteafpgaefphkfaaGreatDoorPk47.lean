/-
  Texts that a law leans on, one behind the other; no statement is proved here.
-/
import Derived.Test.YteafpgaefphkfaaGreatDoorPk39
import Derived.Test.YteafpgaefphkfaaGreatDoorPk11
import Derived.Test.YteafpgaefphkfaaGreatDoorPk0
import Derived.Test.YteafpgaefphkfaaGreatDoorPk1
import Derived.Deep.Cut
import Derived.Deep.CutRange
import Derived.Deep.AppendLies
import Derived.Deep.RegionHeld3
import Derived.Test.YteafpgaefphkfaaGreatDoorPk20
/-
  l3path of the specification on a heap on which values are drawn. No statement is proved here.
-/
namespace Go.Proofs.YteafpgaefphkfaaGreatDoor
open Go.RowKit
set_option linter.unusedVariables false
set_option linter.unusedSimpArgs false

/-- While a path is being drawn from world w on. -/
def PdSt (B M : Nat) (rk : Nat → Nat) (g : Nat) (A : Option Addr) (C : Nat) (cs : List Int) (w : World) (rkr : Nat → Nat) (wr : World) (a : Option Addr) (n cap : Nat) : Prop :=
  SpS B M w.heap.size wr a n cap ∧ Hs B M rkr wr g A C cs ∧ Hst rk w rkr wr g ∧ g < w.heap.size

section
variable {B M : Nat} {rk rkr rk5 : Nat → Nat} {g : Nat} {A : Option Addr} {C : Nat} {cs : List Int} {w wr w5 : World} {a : Option Addr} {n cap : Nat}

theorem PdSt.next (h : PdSt B M rk g A C cs w rkr wr a n cap) (hT : Hst rkr wr rk5 w5 g) (hS : Hs B M rk5 w5 g A C cs) : PdSt B M rk g A C cs w rk5 w5 a n cap :=
  ⟨h.1.on hT.2.2 (fun b hb hl => hT.block hl (by have := h.2.2.2; omega)), hS, h.2.2.1.trans hT, h.2.2.2⟩

theorem news_three {w : World} {e0 e1 e2 : Value} {T : TypeId} : ∀ (j : Nat) (u : Value), [e0, e1, e2][j]? = some u → (w.alloc (.cells #[e0, e1, e2] T)).cell? ((⟨w.heap.size, 0, none⟩ : Addr).add j) = some u := by
  intro j u hu
  rw [Addr.add_lit, Nat.zero_add, cell_of_row _ _ _ _ _ _ (heap_alloc_new w _), ← hu]
  simp

/-- Behind an append to the row that is being drawn. -/
theorem PdSt.grow (h : PdSt B M rk g A C cs w rkr wr a n cap) {a' : Option Addr} {n' cap' : Nat} {w' : World} (hs : SpS B M w.heap.size w' a' n' cap') (hg : Grw a wr w') : PdSt B M rk g A C cs w rkr w' a' n' cap' := by
  have hB : B ≤ w.heap.size := by have := h.2.1.2.2.1; have := h.2.2.2; omega
  have ha : ∀ b, b < w.heap.size → (Value.slice a 0 0).ownBlock ≠ some b := by
    intro b hb e
    obtain ⟨_, _, ⟨rfl, _⟩ | ⟨gq, off, cur, rfl, hL, _⟩⟩ := h.1
    · simp [Value.ownBlock] at e
    · simp [Value.ownBlock] at e; omega
  have hz := h.2.2.1.2.1.size
  have hgl := h.2.2.2
  refine ⟨hs, h.2.1.on (hg.2.2 _ _ _ h.2.1.1) (hg.2.1.block g (by omega) (fun e => ha g h.2.2.2 e.symm)) (fun b hb => hg.2.1.block b (by omega) (fun e => ha b (by omega) e.symm)), ⟨h.2.2.1.1, h.2.2.1.2.1.andThen hg.2.1 (fun j hj => .inl ?_), h.2.2.1.2.2.trans hg.1⟩, h.2.2.2⟩
  by_cases hj' : j < w.heap.size
  · exact absurd hj (ha j hj')
  · omega

theorem PdSt.app (h : PdSt B M rk g A C cs w rkr wr a n cap) (hn : n ≤ 1000) {e0 e1 e2 : Value} (ht : Tri3 B M wr (e0, e1, e2)) (ty : TypeId) :
    ∃ (g' off' cap' : Nat) (w' : World), (Builtin.append_ #[23, 23] ty #[.slice a n cap, .slice (some ⟨wr.heap.size, 0, none⟩) 1 1]).run Tryz.prog (wr.alloc (.cells #[e0, e1, e2] 50)) = .ok (.slice (some ⟨g', off', none⟩) (n + 1) cap') w' ∧ PdSt B M rk g A C cs w rkr w' (some ⟨g', off', none⟩) (n + 1) cap' := by
  have hb : Below wr.heap.size wr (wr.alloc (.cells #[e0, e1, e2] 50)) := (Below.refl _ _).alloc (Nat.le_refl _) _
  have hP := h.next (Hst.below (rk := rkr) hb (Rks.refl _ _)) (h.2.1.below (h.2.1.1.alloc_other _ _ _ (by decide)) hb)
  have hz := hP.2.2.1.2.1.size
  obtain ⟨g', off', cap', w', hr, hs, hg⟩ := sps_app _ ty B M w.heap.size a n cap hP.1 (by omega) ⟨wr.heap.size, 0, none⟩ 1 1 [e0, e1, e2] (Trs.one (ht.shp (Shp.alloc _ _))) news_three (fun _ => by omega) (by omega) hz
  exact ⟨g', off', cap', w', hr, hP.grow hs hg⟩

theorem wpList_sps_app {e0 e1 e2 : Value} {ops : Array Oper} {rest : List Oper} {o : Oper} {ac : Act} {Q : Exit → Act → World → Prop} (hgd : o.guard = none) (s x : Operand) (ho : o.op = .call { callee := .builtin .append, args := #[s, x], argTypes := #[23, 23] })
    (h : PdSt B M rk g A C cs w rkr wr a n cap) (hn : n ≤ 1000) (ht : Tri3 B M wr (e0, e1, e2)) (hs : ac.eval s = .slice a n cap) (hx : ac.eval x = .slice (some ⟨wr.heap.size, 0, none⟩) 1 1)
    (hk : ∀ (g' off' cap' : Nat) (w' : World), PdSt B M rk g A C cs w rkr w' (some ⟨g', off', none⟩) (n + 1) cap' → wpList Tryz.prog ops Q rest (ac.put o.dst (.slice (some ⟨g', off', none⟩) (n + 1) cap')) w') : wpList Tryz.prog ops Q (o :: rest) ac (wr.alloc (.cells #[e0, e1, e2] 50)) := by
  refine wpList_plain hgd fun K hK => ?_
  obtain ⟨g', off', cap', w', hrun, hP⟩ := h.app hn ht o.type
  unfold Oper.wp execOp
  simp only [ho, resolve, invoke, builtin, Sem.run_bind, Sem.run_pure, Result.andThen_ok, List.map_toArray, List.map_cons, List.map_nil, hs, hx, hrun]
  exact hK _ _ (hk g' off' cap' w' hP)
end

/-- What a draw of a path answers. -/
def PdEnd (B M : Nat) (rk : Nat → Nat) (g : Nat) (A : Option Addr) (C : Nat) (cs : List Int) (w : World) (m : Nat) (e : Ending) (w' : World) : Prop :=
  ∃ (a : Option Addr) (n cap : Nat) (rk' : Nat → Nat), e = .returned (.slice a n cap) ∧ n ≤ m ∧ (n = 0 → a = none) ∧ PdSt B M rk g A C cs w rk' w' a n cap

set_option maxHeartbeats 1600000 in
set_option maxRecDepth 100000 in
theorem l3path_hs (B M : Nat) (rk : Nat → Nat) (g : Nat) (A : Option Addr) (C : Nat) (cs : List Int) (w : World) (h : Hs B M rk w g A C cs) (hM : 8 ≤ M) : Calls Tryz.prog 21 #[.pointer (some ⟨g, 0, none⟩)] w (PdEnd B M rk g A C cs w 4) := by
  have hgl := h.lt
  have HL := hide' (l1Below_hs h 4 (by omega))
  clear h
  go_enter Tryz.func21, Tryz.ntmps21
  go_wp2_with fail
  refine HL.out.mono ?_
  rintro e w1 ⟨x, rfl, hx0, hx4, _, hS1, hc1, hsh1⟩
  obtain ⟨N, rfl⟩ : ∃ N : Nat, x = N := ⟨x.toNat, by omega⟩
  have hN : N < 4 := by have := hx4 (by omega); omega
  have HP1 : Hid (PdSt B M rk g A C cs w rk w1 none 0 0) := hide' ⟨SpS.nil _ _ _ _, hS1, Hst.cus hc1 hsh1, hgl⟩
  clear hS1 hc1 hsh1 hx4 hx0 HL
  go_wp2_with fail
  go_loopw [3, 5] (fun x i wr => ∃ k : Nat, k ≤ N ∧ i = .int .i64 k ∧ ∃ (rkr : Nat → Nat) (a : Option Addr) (n cap : Nat), x = .slice a n cap ∧ n ≤ k ∧ Hid ((n = 0 → a = none) ∧ PdSt B M rk g A C cs w rkr wr a n cap)) (fun _ i _ => N - (intOf i).toNat)
  case atStart => exact ⟨0, Nat.zero_le _, rfl, rk, none, 0, 0, rfl, Nat.le_refl _, hide' ⟨fun _ => rfl, HP1.out⟩⟩
  case round =>
    obtain ⟨k, hk, rfl, rkr, a, n, cap, rfl, hnk, hI⟩ := hrel
    by_cases hlt : k < N
    · have hlt' : (k : Int) < (N : Int) := by omega
      have HO := hide' (l1Once_hs hI.out.2.2.1 2 (by omega))
      go_wp2_with fail
      refine HO.out.mono ?_
      rintro e w2 ⟨bo, rfl, hS2, hc2, hsh2⟩
      have HI2 := hide' (hI.out.2.next (Hst.cus hc2 hsh2) hS2)
      clear HO hI hS2 hc2 hsh2
      cases bo
      · have HB := hide' (l1Below_hs HI2.out.2.1 4 (by omega))
        go_wp2_with fail
        refine HB.out.mono ?_
        rintro e w3 ⟨y, rfl, hy0, _, _, hS3, hc3, hsh3⟩
        have HI3 := hide' (HI2.out.next (Hst.cus hc3 hsh3) hS3)
        have HT : Hid (Tri3 B M w3 (.int .i64 1, .slice none 0 0, .int .i64 y)) := hide' ⟨⟨1, rfl⟩, sli_nil _ _ _ _ _ _, ⟨y, rfl⟩⟩
        clear HB HI2 hS3 hc3 hsh3
        go_wp2_with (first | (refine wpList_sps_app rfl _ _ rfl HI3.out (by omega) HT.out rfl rfl ?_; intro g' off' cap' w' hP'; have HP' := hide' hP'; clear hP') | fail)
        go_roundw
        case rel => exact ⟨k + 1, by omega, by go_num, rkr, _, n + 1, _, rfl, by omega, hide' ⟨fun h => by omega, HP'.out⟩⟩
        case measure => simp [intOf]; omega
      · have HB := hide' (l2drawName_hs B M rkr g A C cs _ HI2.out.2.1 hM)
        go_wp2_with fail
        refine HB.out.mono ?_
        rintro e w3 ⟨ad, nl, nc, rfl, hN1, hS3, hT3⟩
        have HI3 := hide' (HI2.out.next hT3 hS3)
        have HT : Hid (Tri3 B M w3 (.int .i64 0, .slice ad nl nc, .int .i64 0)) := hide' ⟨⟨0, rfl⟩, hN1, ⟨0, rfl⟩⟩
        clear HB HI2 hS3 hT3 hN1
        go_wp2_with (first | (refine wpList_sps_app rfl _ _ rfl HI3.out (by omega) HT.out rfl rfl ?_; intro g' off' cap' w' hP'; have HP' := hide' hP'; clear hP') | fail)
        go_roundw
        case rel => exact ⟨k + 1, by omega, by go_num, rkr, _, n + 1, _, rfl, by omega, hide' ⟨fun h => by omega, HP'.out⟩⟩
        case measure => simp [intOf]; omega
    · have hltn : ¬ (k : Int) < (N : Int) := by omega
      go_wp2_with fail
      go_ret
      exact ⟨a, n, cap, rkr, rfl, by omega, hI.out.1, hI.out.2⟩
end Go.Proofs.YteafpgaefphkfaaGreatDoor
/-
  l2own of the specification: the walk.
-/
namespace Go.Proofs.YteafpgaefphkfaaGreatDoor
open Go.RowKit
set_option linter.unusedVariables false
set_option linter.unusedSimpArgs false

end Go.Proofs.YteafpgaefphkfaaGreatDoor
