/-
  Texts that a law leans on, one behind the other; no statement is proved here.
-/
import Derived.Test.YtmdmiiikbdnioaaPk39
import Derived.Test.YtmdmiiikbdnioaaPk0
import Derived.Deep.CutRange
/-
  holds of the program's reader: the parts of a list or a map. No statement is proved here.
-/
namespace Go.Proofs.Ytmdmiiikbdnioaa
open Go.RowKit
set_option linter.unusedVariables false
set_option linter.unusedSimpArgs false

/-- The row's last five cells, stored. -/
theorem row_put5 {w : World} {base g n cp : Nat} {fl : List Value} {z0 z1 z2 z3 z4 : Value} (u0 u1 u2 u3 u4 : Value) (hfl : fl.length = n * 5) (h : w.ownsRow base 26 5 (.slice (some ⟨g, 0, none⟩) (n + 1) cp) (n + 1) (fl ++ [z0, z1, z2, z3, z4])) :
    (set5 w g (n * 5) u0 u1 u2 u3 u4).ownsRow base 26 5 (.slice (some ⟨g, 0, none⟩) (n + 1) cp) (n + 1) (fl ++ [u0, u1, u2, u3, u4]) := by
  have h5 := ((((((h.stored (n * 5) u0).1).stored (n * 5 + 1) u1).1.stored (n * 5 + 2) u2).1.stored (n * 5 + 3) u3).1.stored (n * 5 + 4) u4).1
  have e : ((((((fl ++ [z0, z1, z2, z3, z4]).set (n * 5) u0).set (n * 5 + 1) u1).set (n * 5 + 2) u2).set (n * 5 + 3) u3).set (n * 5 + 4) u4) = fl ++ [u0, u1, u2, u3, u4] := by
    rw [← hfl]
    simp [List.set_append_right]
  rw [e] at h5
  exact h5

/-- Two stores into two blocks, in whatever order. -/
theorem comm_heap {w : World} {g B j k : Nat} {cg cb : Array Value} {Tg Tb : TypeId} (u0 u1 u2 u3 u4 x : Value) (hg : w.heap[g]? = some (.cells cg Tg (0, 0))) (hB : w.heap[B]? = some (.cells cb Tb (0, 0))) (hne : g ≠ B) :
    (set5 (w.setCell ⟨B, k, none⟩ x) g j u0 u1 u2 u3 u4).heap = ((set5 w g j u0 u1 u2 u3 u4).setCell ⟨B, k, none⟩ x).heap := by
  apply Array.ext_getElem?
  intro b
  by_cases h1 : b = g
  · subst h1
    rw [set5_heap u0 u1 u2 u3 u4 ((Below.heap_setCell w ⟨B, k, none⟩ x b (by show b ≠ B; exact hne)).trans hg), Below.heap_setCell _ ⟨B, k, none⟩ x b (by show b ≠ B; exact hne), set5_heap u0 u1 u2 u3 u4 hg]
  · rw [set5_other _ _ _ _ _ _ _ _ _ h1]
    by_cases h2 : b = B
    · subst h2
      rw [heap_setCell_same w b k _ _ _ hB, heap_setCell_same _ b k _ _ _ ((set5_other _ _ _ _ _ _ _ _ _ h1).trans hB)]
    · rw [Below.heap_setCell w ⟨B, k, none⟩ x b (by show b ≠ B; exact h2), Below.heap_setCell _ ⟨B, k, none⟩ x b (by show b ≠ B; exact h2), set5_other _ _ _ _ _ _ _ _ _ h1]

theorem put5_grown {w w6 : World} {x : Value} {g6 j : Nat} {u0 u1 u2 u3 u4 : Value} (h : w.grownBy w6 x.ownBlock) (hat : x.ownBlock = some g6 ∨ g6 = w.heap.size) : w.grownBy (set5 w6 g6 j u0 u1 u2 u3 u4) x.ownBlock := by
  have h5 := set5_grown w6 g6 j u0 u1 u2 u3 u4
  have hz := h.size
  refine ⟨h5.os.trans h.os, h5.tape.trans h.tape, h5.output.trans h.output, Nat.le_trans hz h5.size, fun b hb hne => (h5.block b (by omega) ?_).trans (h.block b hb hne)⟩
  rcases hat with e | e
  · rw [← e]; exact hne
  · simp; omega
theorem own_cells {w : World} {base g n cp : Nat} {xs : List Value} (h : w.ownsRow base 26 5 (.slice (some ⟨g, 0, none⟩) n cp) n xs) : ∃ cg, w.heap[g]? = some (.cells cg 26 (0, 0)) := by
  rcases h.2 with ⟨h', _⟩ | ⟨g', cap', cur, h', _, hg, _⟩
  · simp at h'
  · simp only [Value.slice.injEq, Option.some.injEq, Addr.mk.injEq, and_true, true_and] at h'
    obtain ⟨rfl, rfl⟩ := h'
    exact ⟨cur, hg⟩
theorem rinv_n {T : TypeId} {xs : List Int} {g : Nat} {a : Option Addr} {cap : Nat} {w1 : World} {B d : Nat} {kd : Int} {K : List (List Int)} {L : List (Vl d)} {p q : Int} {N : Nat} {wr : World} {xK : Value} {csK : List (List Value)} {BiK : List (List Nat)} {xL : Value} {csL : List (List Value)} {BiL : List (List Nat)} (h : RInv T xs g a cap w1 B d kd K L p q N wr xK csK BiK xL csL BiL) : RInv T xs g a cap w1 B d kd K L p q wr.heap.size wr xK csK BiK xL csL BiL := by
  obtain ⟨h1, h2, h3, h4, h5, h6, h7, h8⟩ := h
  exact ⟨h1, h2, h3, h4, h5, fun b hb => Nat.lt_of_lt_of_le (h6 b hb) h7, Nat.le_refl _, h8⟩

/-- The contract of value: so many parts may still come. -/
def RiAt (dp : Nat) : Prop := ∀ (xs : List Int) (g : Nat) (a : Option Addr) (cap : Nat) (p q : Int) (w : World), RdC 42 xs w g a cap p q → 0 ≤ q → q ≤ 40 → 40 - q ≤ dp → Calls Try.prog 16 #[.pointer (some ⟨g, 0, none⟩)] w (RdEnd 42 xs g a cap w (dp + 1) (rdV xs dp p (40 - q)).1 (rdV xs dp p (40 - q)).2.1 (40 - (rdV xs dp p (40 - q)).2.2))

/-- What stands while the parts are read. -/
def RTt (xs : List Int) (g : Nat) (a : Option Addr) (cap : Nat) (dp : Nat) (w4 : World) (B : Nat) (kd q0 : Int) (m : Bool) (N k : Nat) (fin : List (List Int) × List (Vl (dp + 1)) × Int × Int) (K : List (List Int)) (L : List (Vl (dp + 1))) (p q : Int) (wr : World) (pK : Option Addr) (cK : Nat) (csK : List (List Value)) (BiK : List (List Nat)) (pL : Option Addr) (cL : Nat) (csL : List (List Value)) (BiL : List (List Nat)) : Prop :=
  RInv 42 xs g a cap w4 B (dp + 1) kd K L p q wr.heap.size wr (.slice pK K.length cK) csK BiK (.slice pL L.length cL) csL BiL ∧ K.length ≤ k ∧ L.length ≤ k ∧ q0 ≤ q ∧ q ≤ 41 ∧ (40 < q → p < 0) ∧ (k < N → 0 ≤ p) ∧ rdK (fun a l => rdV xs dp a l) xs m (N - k) K L p (40 - q) = fin

/-- What holds leaves. -/
def HldEnd (xs : List Int) (g : Nat) (a : Option Addr) (cap : Nat) (dp B : Nat) (kd : Int) (fin : List (List Int) × List (Vl (dp + 1)) × Int × Int) (w : World) (e : Ending) (w' : World) : Prop :=
  e = .returned (.tuple #[]) ∧ ∃ (K : List (List Int)) (L : List (Vl (dp + 1))) (p q : Int) (pK : Option Addr) (cK : Nat) (pL : Option Addr) (cL : Nat), fin = (K, L, p, 40 - q) ∧ w'.heap[B]? = some (.cells #[.int .i64 kd, .int .i64 0, .slice none 0 0, .slice pK K.length cK, .slice pL L.length cL] 26 (0, 0)) ∧
    (∃ Bs, VOwn w' (dp + 1 + 1) (.int .i64 kd, .int .i64 0, .slice none 0 0, .slice pK K.length cK, .slice pL L.length cL) (kd, 0, [], K, L) Bs ∧ ∀ b ∈ Bs, w.heap.size ≤ b ∧ b < w'.heap.size) ∧ RdC 42 xs w' g a cap p q ∧
    (w'.os = w.os ∧ w'.tape = w.tape ∧ w'.output = w.output ∧ w.heap.size ≤ w'.heap.size ∧ ∀ b, b < w.heap.size → b ≠ B → b ≠ g → w'.heap[b]? = w.heap[b]?)

theorem hld_end {xs : List Int} {g : Nat} {a : Option Addr} {cap : Nat} {dp B : Nat} {kd : Int} {fin : List (List Int) × List (Vl (dp + 1)) × Int × Int} {w w1 wr : World} {K : List (List Int)} {L : List (Vl (dp + 1))} {p q : Int} {N : Nat} {pK : Option Addr} {cK : Nat} {csK : List (List Value)} {BiK : List (List Nat)} {pL : Option Addr} {cL : Nat} {csL : List (List Value)} {BiL : List (List Nat)} {e : Ending} (he : e = .returned (.tuple #[])) (hg : w.grownBy w1 (some g))
    (h : RInv 42 xs g a cap w1 B (dp + 1) kd K L p q N wr (.slice pK K.length cK) csK BiK (.slice pL L.length cL) csL BiL) (hf : fin = (K, L, p, 40 - q)) : HldEnd xs g a cap dp B kd fin w e wr := by
  obtain ⟨Bs, ho, hb⟩ := h.own
  have hz := hg.size
  refine ⟨he, K, L, p, q, pK, cK, pL, cL, hf, h.2.1, ⟨Bs, ho, fun b h => by have := hb b h; omega⟩, h.2.2.2.2.2.2.2.1, h.1.1.trans hg.os, h.1.2.1.trans hg.tape, h.1.2.2.1.trans hg.output, by have := h.1.2.2.2.1; omega, fun b hb1 hb2 hb3 => (h.1.2.2.2.2 b (by omega) hb2 hb3).trans (hg.block b hb1 (by simpa using hb3))⟩
end Go.Proofs.Ytmdmiiikbdnioaa
