/-
  Texts that a law leans on, one behind the other; no statement is proved here.
-/
import Derived.Test.YtfokidhamjphfaaDoorPk17
/-
  l2own of the specification: what its two loops leave.
-/
namespace Go.Proofs.YtfokidhamjphfaaDoor
open Go.RowKit
set_option linter.unusedVariables false
set_option linter.unusedSimpArgs false

/-- After k rounds of the first loop: out's box (block O) holds k texts of the call's own. -/
def KInv (w2 : World) (O : Nat) (c0 c1 c2 : Value) (ks : List (List Int)) (k : Nat) (wr : World) (x : Value) (cs : List (List Value)) (Bi : List (List Nat)) : Prop :=
  wr.heap[O]? = some (.cells #[c0, c1, c2, x, .slice none 0 0] 26 (0, 0)) ∧ RW 22 1 (ItK ks) wr w2.heap.size x k cs Bi ∧ w2.grownBy wr (some O)

/-- After k rounds of the second loop: it holds k values besides. -/
def LInv (w3 : World) (O : Nat) (c0 c1 c2 c3 : Value) (d : Nat) (l : List (Vl d)) (k : Nat) (wr : World) (x : Value) (cs : List (List Value)) (Bi : List (List Nat)) : Prop :=
  wr.heap[O]? = some (.cells #[c0, c1, c2, c3, x] 26 (0, 0)) ∧ RW 26 5 (ItV d l) wr w3.heap.size x k cs Bi ∧ w3.grownBy wr (some O)

theorem grown_onO {w2 wr w5 w6 : World} {O : Nat} {x v : Value} {o : Obj} {j : Nat} (h : w2.grownBy wr (some O)) (b5 : Below wr.heap.size wr w5) (hg : (w5.alloc o).grownBy w6 x.ownBlock) (hx : ∀ b, x.ownBlock = some b → w2.heap.size ≤ b) : w2.grownBy (w6.setCell ⟨O, j, none⟩ v) (some O) := by
  have h1 := h.size
  have h5 := b5.size
  have h6 := hg.size
  simp at h6
  refine ⟨h.os ▸ b5.os ▸ hg.os ▸ rfl, h.tape ▸ b5.tape ▸ hg.tape ▸ rfl, h.output ▸ b5.output ▸ hg.output ▸ rfl, by simp [World.setCell]; omega, fun b hb hne => ?_⟩
  have hbO : b ≠ O := fun e => hne (by rw [e])
  exact (Below.heap_setCell w6 ⟨O, j, none⟩ v b hbO).trans ((hg.block b (by simp; omega) (fun e => by have := hx b e.symm; omega)).trans ((Below.heap_alloc _ _ _ (by omega)).trans ((b5.block b (by omega)).trans (h.block b hb hne))))

theorem kinv_step {w2 wr w5 w6 : World} {O : Nat} {c0 c1 c2 : Value} {ks : List (List Int)} {x v5 : Value} {k g cp : Nat} {cs : List (List Value)} {Bi : List (List Nat)} {o : Obj} (h : KInv w2 O c0 c1 c2 ks k wr x cs Bi) (hO : O < w2.heap.size) (b5 : Below wr.heap.size wr w5) (hv : Bts w5 wr.heap.size v5 (ks.getD k []))
    (hown : w6.ownsRow w2.heap.size 22 1 (.slice (some ⟨g, 0, none⟩) (k + 1) cp) (k + 1) (cs.flatten ++ [v5])) (hg : (w5.alloc o).grownBy w6 x.ownBlock) (hat : x.ownBlock = some g ∨ g = w5.heap.size + 1) :
    w6.heap[O]? = some (.cells #[c0, c1, c2, x, .slice none 0 0] 26 (0, 0)) ∧ ∃ cs' Bi', KInv w2 O c0 c1 c2 ks (k + 1) (w6.setCell ⟨O, 3, none⟩ (.slice (some ⟨g, 0, none⟩) (k + 1) cp)) (.slice (some ⟨g, 0, none⟩) (k + 1) cp) cs' Bi' := by
  obtain ⟨h1, h2, h3⟩ := h
  obtain ⟨Bv, hT, hBv, hBn⟩ := tOwn_of hv
  have hz3 := h3.size
  have hz5 := b5.size
  have hxlt := h2.2.2.1.lt
  have hneB : some O ≠ x.ownBlock := fun e => by have := hxlt O e.symm; omega
  have hV6 : w6.heap[O]? = some (.cells #[c0, c1, c2, x, .slice none 0 0] 26 (0, 0)) := (hg.block O (by simp; omega) hneB).trans ((Below.heap_alloc _ _ _ (by omega)).trans ((b5.block O (by omega)).trans h1))
  have hR := RW.add (w2 := w5.alloc o) (ItK.agree ks) h2 (fun b hb => (Below.heap_alloc _ _ _ (by omega)).trans (b5.block b hb)) (by simp; omega) ⟨v5, rfl, hT.agree fun b hb => Below.heap_alloc _ _ _ (hBv b hb).2⟩ (fun b hb => by have := hBv b hb; simp; omega) hBn hz3 hown hg (by simpa using hat)
  refine ⟨hV6, cs ++ [[v5]], Bi ++ [Bv], heap_setCell_same w6 O 3 _ _ _ hV6, ?_, grown_onO h3 b5 hg (fun b hb => (hxlt b hb).1)⟩
  refine hR.agree (ItK.agree ks) (fun b hb => ?_) (by simp [World.setCell])
  have := hR.2.2.2.2.2 b hb
  exact Below.heap_setCell w6 _ _ b (by show b ≠ O; omega)

theorem linv_step {w3 wr w5 w6 : World} {O d : Nat} {c0 c1 c2 c3 : Value} {l : List (Vl d)} {k : Nat} {x : Value} {cs : List (List Value)} {Bi : List (List Nat)} {c : List Value} {Bv : List Nat} {g cp : Nat} {o : Obj} (h : LInv w3 O c0 c1 c2 c3 d l k wr x cs Bi) (hO : O < w3.heap.size)
    (b5 : Below wr.heap.size wr w5) (hv : ItV d l w5 k c Bv) (hBv : ∀ b ∈ Bv, wr.heap.size ≤ b ∧ b < w5.heap.size) (hBn : Bv.Nodup)
    (hown : w6.ownsRow w3.heap.size 26 5 (.slice (some ⟨g, 0, none⟩) (k + 1) cp) (k + 1) (cs.flatten ++ c)) (hg : (w5.alloc o).grownBy w6 x.ownBlock) (hat : x.ownBlock = some g ∨ g = w5.heap.size + 1) :
    w6.heap[O]? = some (.cells #[c0, c1, c2, c3, x] 26 (0, 0)) ∧ LInv w3 O c0 c1 c2 c3 d l (k + 1) (w6.setCell ⟨O, 4, none⟩ (.slice (some ⟨g, 0, none⟩) (k + 1) cp)) (.slice (some ⟨g, 0, none⟩) (k + 1) cp) (cs ++ [c]) (Bi ++ [Bv]) := by
  obtain ⟨h1, h2, h3⟩ := h
  have hz3 := h3.size
  have hz5 := b5.size
  have hxlt := h2.2.2.1.lt
  have hneB : some O ≠ x.ownBlock := fun e => by have := hxlt O e.symm; omega
  have hV6 : w6.heap[O]? = some (.cells #[c0, c1, c2, c3, x] 26 (0, 0)) := (hg.block O (by simp; omega) hneB).trans ((Below.heap_alloc _ _ _ (by omega)).trans ((b5.block O (by omega)).trans h1))
  have hR := RW.add (w2 := w5.alloc o) (ItV.agree d l) h2 (fun b hb => (Below.heap_alloc _ _ _ (by omega)).trans (b5.block b hb)) (by simp; omega) (ItV.agree d l _ _ _ _ _ hv fun b hb => Below.heap_alloc _ _ _ (hBv b hb).2) (fun b hb => by have := hBv b hb; simp; omega) hBn hz3 hown hg (by simpa using hat)
  refine ⟨hV6, heap_setCell_same w6 O 4 _ _ _ hV6, ?_, grown_onO h3 b5 hg (fun b hb => (hxlt b hb).1)⟩
  refine hR.agree (ItV.agree d l) (fun b hb => ?_) (by simp [World.setCell])
  have := hR.2.2.2.2.2 b hb
  exact Below.heap_setCell w6 _ _ b (by show b ≠ O; omega)

/-- No row of a value is too long. -/
def bndV : (d : Nat) → Vl d → Prop
  | 0, _ => True
  | d + 1, v => v.2.2.1.length ≤ 1048576 ∧ v.2.2.2.1.length ≤ 1048576 ∧ (∀ i, i < v.2.2.2.1.length → (v.2.2.2.1.getD i []).length ≤ 1048576) ∧ v.2.2.2.2.length ≤ 1048576 ∧ ∀ i (h : i < v.2.2.2.2.length), bndV d (v.2.2.2.2[i])

/-- What a call of l2own leaves of it. -/
def LCall (O : Nat) (base d : Nat) (l : List (Vl d)) (k : Nat) (wr : World) (x : Value) (xs : List Value) (e : Ending) (w5 : World) : Prop :=
  ∃ (uk un : Int) (s2 : Option Addr) (n2 r2 : Nat) (s3 : Option Addr) (n3 r3 : Nat) (s4 : Option Addr) (n4 r4 : Nat), e = .returned (.agg #[.int .i64 uk, .int .i64 un, .slice s2 n2 r2, .slice s3 n3 r3, .slice s4 n4 r4]) ∧
    ∃ Bv, ItV d l w5 k [.int .i64 uk, .int .i64 un, .slice s2 n2 r2, .slice s3 n3 r3, .slice s4 n4 r4] Bv ∧ (∀ b ∈ Bv, wr.heap.size ≤ b ∧ b < w5.heap.size) ∧ Bv.Nodup ∧ Below wr.heap.size wr w5 ∧ w5.cell? ⟨O, 4, none⟩ = some x ∧ w5.ownsRow base 26 5 x k xs

theorem linv_call {w3 wr wy w5 : World} {O d : Nat} {c0 c1 c2 c3 : Value} {l : List (Vl d)} {k : Nat} {x : Value} {cs : List (List Value)} {Bi : List (List Nat)} {e : Ending} (h : LInv w3 O c0 c1 c2 c3 d l k wr x cs Bi) (hO : O < w3.heap.size) (hk : k < l.length)
    (hy : Below wr.heap.size wr wy) (he : ValEnd d l[k] wy e w5) : LCall O w3.heap.size d l k wr x cs.flatten e w5 := by
  obtain ⟨u0, u1, u2, u3, u4, rfl, Bv, hv, hb, h5⟩ := he
  obtain ⟨uk, un, s2, n2, r2, s3, n3, r3, s4, n4, r4, rfl, rfl, rfl, rfl, rfl⟩ := VOwn.form d hv
  have hb5 := Below.on hy h5
  have hz := hy.size
  have hz3 := h.2.2.size
  refine ⟨uk, un, s2, n2, r2, s3, n3, r3, s4, n4, r4, rfl, Bv, ⟨_, rfl, hk, hv⟩, fun b hm => ?_, VOwn.nodup d hv, hb5, ?_, ?_⟩
  · have := hb b hm; omega
  · exact (World.cell?_of_block (hb5.block O (by omega))).trans (row5 h.1).2.2.2.2.1
  · exact h.2.1.2.2.1.kept (row := none) ⟨hb5.os, hb5.tape, hb5.output, hb5.size, fun k hk _ => hb5.block k hk⟩ (by cases hv : x.ownBlock <;> simp)

theorem own_end {wc wr wz wf : World} {N1 O R d : Nat} {vk vn : Int} {vS : List Int} {vK : List (List Int)} {vL : List (Vl d)} {sv xk xl : Value} {Bs Bk Bl : List Nat} (hT : TOwn wc sv vS Bs) (hBs : ∀ b ∈ Bs, N1 ≤ b ∧ b < wc.heap.size ∧ b ≠ O) (hSn : Bs.Nodup) (hK : KOwn wr xk vK Bk) (hBk : ∀ b ∈ Bk, wc.heap.size ≤ b ∧ b < wr.heap.size) (hKn : Bk.Nodup) (hL : LOwn wz d xl vL Bl) (hBl : ∀ b ∈ Bl, wr.heap.size ≤ b ∧ b < wz.heap.size) (hLn : Bl.Nodup)
    (h1 : wc.grownBy wr (some O)) (h2 : wr.grownBy wz (some O)) (h3 : wz.grownBy wf (some R)) (hO : O < wc.heap.size) (hR : R < N1) (hN1 : N1 ≤ wc.heap.size) : VOwn wf (d + 1) (.int .i64 vk, .int .i64 vn, sv, xk, xl) (vk, vn, vS, vK, vL) (Bs ++ (Bk ++ Bl)) ∧ ∀ b ∈ Bs ++ (Bk ++ Bl), N1 ≤ b ∧ b < wf.heap.size := by
  have s1 := h1.size
  have s2 := h2.size
  have s3 := h3.size
  refine ⟨⟨rfl, rfl, Bs, Bk, Bl, hT.agree fun b hb => ?_, hK.agree fun b hb => ?_, hL.agree fun b hb => ?_, rfl, ?_⟩, fun b hb => ?_⟩
  · obtain ⟨q1, q2, q3⟩ := hBs b hb
    exact (h3.block b (by omega) (by simp; omega)).trans ((h2.block b (by omega) (by simpa using q3)).trans (h1.block b q2 (by simpa using q3)))
  · obtain ⟨q1, q2⟩ := hBk b hb
    exact (h3.block b (by omega) (by simp; omega)).trans (h2.block b (by omega) (by simp; omega))
  · obtain ⟨q1, q2⟩ := hBl b hb
    exact h3.block b q2 (by simp; omega)
  · rw [List.nodup_append]
    refine ⟨hSn, ?_, fun x hx y hy => ?_⟩
    · rw [List.nodup_append]
      refine ⟨hKn, hLn, fun x hx y hy => ?_⟩
      have := hBk x hx
      have := hBl y hy
      omega
    · have := hBs x hx
      rcases List.mem_append.1 hy with hy | hy
      · have := hBk y hy; omega
      · have := hBl y hy; omega
  · rcases List.mem_append.1 hb with hb | hb
    · have := hBs b hb; omega
    · rcases List.mem_append.1 hb with hb | hb
      · have := hBk b hb; omega
      · have := hBl b hb; omega
end Go.Proofs.YtfokidhamjphfaaDoor
