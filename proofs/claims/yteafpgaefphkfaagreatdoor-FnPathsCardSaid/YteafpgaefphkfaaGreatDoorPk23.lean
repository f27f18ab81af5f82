/-
  Texts that a law leans on, one behind the other; no statement is proved here.
-/
import Derived.Test.YteafpgaefphkfaaGreatDoorPk22
import Derived.Maps.AppendAt
import Derived.Test.YteafpgaefphkfaaGreatDoorPk14
import Derived.Test.YteafpgaefphkfaaGreatDoorPk4
import Derived.Test.YteafpgaefphkfaaGreatDoorPk9
/-
  takeAll of the program: it takes a list of values in, out of what take does at one.
-/
namespace Go.Proofs.YteafpgaefphkfaaGreatDoor
open Go.RowKit
set_option linter.unusedVariables false
set_option linter.unusedSimpArgs false

theorem grownBy_fresh {w w1 w2 : World} {r r' : Option Nat} (h : w.grownBy w1 r) (k : w1.grownBy w2 r') (hr : ∀ j, r' = some j → w.heap.size ≤ j) : w.grownBy w2 r :=
  ⟨k.os.trans h.os, k.tape.trans h.tape, k.output.trans h.output, Nat.le_trans h.size k.size, fun i hi hne => (k.block i (Nat.lt_of_lt_of_le hi h.size) (fun e => by have := hr i e.symm; omega)).trans (h.block i hi hne)⟩

theorem parts_one (d : Nat) (v : Vl d) : 1 ≤ partsV d v := by
  cases d with
  | zero => exact v.elim
  | succ d => exact parts_pos d v

theorem pre_ge (d : Nat) (l : List (Vl d)) (k : Nat) (h : k ≤ l.length) : k ≤ pre (partsV d) l k := by
  induction k with
  | zero => omega
  | succ k ih =>
    have := pre_succ (partsV d) l k (by omega)
    have := parts_one d l[k]
    have := ih (by omega)
    omega

theorem Cnt.keep {w w' : World} {q n : Nat} {r : Option Nat} (h : Cnt w q n) (hg : w.grownBy w' r) (hr : some q ≠ r) : Cnt w' q n :=
  (hg.block q (Array.getElem?_eq_some_iff.1 h).1 hr).trans h

/-- What holds after k rounds of takeAll. -/
def TA (d : Nat) (l : List (Vl d)) (deep n q : Nat) (w wr : World) (k : Nat) (y : Value) (ps : List Value) : Prop :=
  k ≤ l.length ∧ ps.length = k ∧ wr.ownsRow w.heap.size 55 1 y k ps ∧ (∀ j (h : j < l.length), j < k → goodB d l[j] deep = true) ∧ n + pre (partsV d) l k ≤ 40 ∧ Cnt wr q (n + pre (partsV d) l k) ∧
    (∀ j (h : j < l.length), j < k → PSeg (fun b => w.heap.size ≤ b ∧ b < wr.heap.size ∧ some b ≠ y.ownBlock) wr d (ps.getD j .nilIface) l[j]) ∧ w.grownBy wr (some q)

theorem TA_zero {d : Nat} {l : List (Vl d)} {deep n q : Nat} {w : World} (hc : Cnt w q n) (hn : n ≤ 40) : TA d l deep n q w w 0 (.slice none 0 0) [] :=
  ⟨Nat.zero_le _, rfl, World.ownsRow_nil w _ _ _, fun j _ h => by omega, by rw [pre_zero]; omega, by rw [pre_zero]; exact hc, fun j _ h => by omega, World.grownBy.refl _ _⟩

theorem own_ne {w : World} {base e n q : Nat} {y : Value} {xs : List Value} (h : w.ownsRow base e 1 y n xs) (hq : q < base) : some q ≠ y.ownBlock := fun e => by
  have := h.lt q e.symm
  omega

theorem TA_none {d : Nat} {l : List (Vl d)} {deep n q : Nat} {w wr W : World} {k : Nat} {y : Value} {ps : List Value} (h : TA d l deep n q w wr k y ps) (hg : wr.grownBy W none) : TA d l deep n q w W k y ps := by
  obtain ⟨h1, h2, h3, h4, h5, h6, h7, h8⟩ := h
  refine ⟨h1, h2, h3.kept hg ?_, h4, h5, h6.keep hg (by simp), fun j hj hjk => ?_, grownBy_fresh h8 hg (by simp)⟩
  · cases hy : y.ownBlock with
    | none => exact .inl rfl
    | some z => exact .inr (by simp)
  · refine PSeg.carry (fun b hb => ⟨hb.1, Nat.lt_of_lt_of_le hb.2.1 hg.size, hb.2.2⟩) (fun b hb => hg.block b hb.2.1 (by simp)) d (h7 j hj hjk)

/-- Behind take: the same, but for the counter. -/
theorem TA_row {d : Nat} {l : List (Vl d)} {deep n q : Nat} {w wr w1 : World} {k : Nat} {y : Value} {ps : List Value} (h : TA d l deep n q w wr k y ps) (hq : q < w.heap.size) (hg : wr.grownBy w1 (some q)) (o : Obj) : (w1.alloc o).ownsRow w.heap.size 55 1 y k ps := by
  obtain ⟨h1, h2, h3, h4, h5, h6, h7, h8⟩ := h
  have := h3.kept hg (.inr (fun e => own_ne h3 hq e.symm))
  exact this.alloc o

theorem TA_next {d : Nat} {l : List (Vl d)} {deep n q : Nat} {w wr w1 w2 : World} {k : Nat} {y y' p : Value} {ps : List Value} {T : TypeId} (h : TA d l deep n q w wr k y ps) (hq : q < w.heap.size) (hk : k < l.length) (hg : wr.grownBy w1 (some q))
    (ht : Took d l[k] deep (n + pre (partsV d) l k) q wr w1 p) (hown : w2.ownsRow w.heap.size 55 1 y' (k + 1) (ps ++ [p])) (hg2 : (w1.alloc (.cells #[p] T)).grownBy w2 y.ownBlock) (hloc : y'.ownBlock = y.ownBlock ∨ y'.ownBlock = some (w1.alloc (.cells #[p] T)).heap.size) :
    TA d l deep n q w w2 (k + 1) y' (ps ++ [p]) := by
  obtain ⟨h1, h2, h3, h4, h5, h6, h7, h8⟩ := h
  obtain ⟨t1, t2, t3, t4⟩ := ht
  have hps := pre_succ (partsV d) l k hk
  have hal : w1.grownBy (w1.alloc (.cells #[p] T)) none := World.grownBy_alloc w1 _ none
  have hsz : (w1.alloc (.cells #[p] T)).heap.size = w1.heap.size + 1 := by simp
  have hyb : ∀ j, y.ownBlock = some j → w.heap.size ≤ j ∧ j < wr.heap.size := fun j hj => h3.lt j hj
  have hs1 := hg.size
  have hs2 := hg2.size
  have hs8 := h8.size
  refine ⟨hk, by simp [h2], hown, fun j hj hjk => ?_, by rw [hps]; omega, ?_, fun j hj hjk => ?_, ?_⟩
  · by_cases e : j = k
    · subst e; exact t1
    · exact h4 j hj (by omega)
  · rw [hps, ← Nat.add_assoc]
    exact (t3.keep hal (by simp)).keep hg2 (fun e => by have := hyb q e.symm; omega)
  · by_cases e : j = k
    · subst e
      have : (ps ++ [p]).getD j .nilIface = p := by simp [List.getD_eq_getElem?_getD, ← h2]
      rw [this]
      refine PSeg.carry (fun b hb => ⟨by omega, by omega, fun e => ?_⟩) (fun b hb => (hg2.block b (by omega) (fun e => by have := hyb b e.symm; omega)).trans (hal.block b hb.2 (by simp))) d t4
      rcases hloc with e2 | e2
      · have := hyb b (e2.symm.trans e.symm); omega
      · rw [e2] at e; simp at e; omega
    · have hjk' : j < k := by omega
      have : (ps ++ [p]).getD j .nilIface = ps.getD j .nilIface := by
        simp only [List.getD_eq_getElem?_getD]
        rw [List.getElem?_append_left (by omega)]
      rw [this]
      refine PSeg.carry (fun b hb => ⟨hb.1, by omega, fun e => ?_⟩) (fun b hb => (hg2.block b (by omega) hb.2.2).trans ((hal.block b (by omega) (by simp)).trans (hg.block b hb.2.1 (by simp; omega)))) d (h7 j hj hjk')
      rcases hloc with e2 | e2
      · exact hb.2.2 (e.trans e2)
      · rw [e2] at e; simp at e; omega
  · exact grownBy_fresh (grownBy_fresh (grownBy_trans h8 hg) hal (by simp)) hg2 (fun j hj => (hyb j hj).1)

/-- What a good takeAll has brought about. -/
def TookAll (d : Nat) (l : List (Vl d)) (deep n q : Nat) (w w' : World) (y : Value) : Prop :=
  (∀ j (h : j < l.length), goodB d l[j] deep = true) ∧ n + pre (partsV d) l l.length ≤ 40 ∧ Cnt w' q (n + pre (partsV d) l l.length) ∧
    ∃ (a : Option Addr) (cap : Nat) (ps : List Value), y = .slice a l.length cap ∧ (l = [] ∨ ∃ b, a = some ⟨b, 0, none⟩ ∧ w.heap.size ≤ b ∧ b < w'.heap.size ∧ ∀ i, i < l.length → w'.cell? ⟨b, i, none⟩ = some (ps.getD i .nilIface)) ∧ ∀ i (h : i < l.length), PSeg (fun b => w.heap.size ≤ b ∧ b < w'.heap.size) w' d (ps.getD i .nilIface) l[i]

theorem TA_end {d : Nat} {l : List (Vl d)} {deep n q : Nat} {w wr : World} {y : Value} {ps : List Value} (h : TA d l deep n q w wr l.length y ps) : TookAll d l deep n q w wr y := by
  obtain ⟨h1, h2, h3, h4, h5, h6, h7, h8⟩ := h
  have hcell := fun g (hg : y.ownBlock = some g) => h3.lt g hg
  refine ⟨fun j hj => h4 j hj hj, h5, h6, ?_⟩
  have h3' := h3
  rcases h3.2 with ⟨rfl, e0⟩ | ⟨g, cap, cur, rfl, hg, hh, hle, hm, hsz, htk⟩
  · exact ⟨none, 0, ps, by rw [e0], .inl (List.eq_nil_of_length_eq_zero e0), fun i hi => by omega⟩
  · refine ⟨some ⟨g, 0, none⟩, cap, ps, rfl, .inr ⟨g, rfl, hg, (Array.getElem?_eq_some_iff.1 hh).1, fun i hi => ?_⟩, fun i hi => PSeg.carry (fun b hb => ⟨hb.1, hb.2.1⟩) (fun b _ => rfl) d (h7 i hi hi)⟩
    have := World.ownsRow.cellAt h3' i (by omega)
    rw [this]
    simp [List.getD_eq_getElem?_getD, show i < ps.length from by omega]

end Go.Proofs.YteafpgaefphkfaaGreatDoor
/-
  Which type a part is: the type assertions of a part, at each type.
-/
namespace Go.Proofs.YteafpgaefphkfaaGreatDoor
open Go.RowKit
set_option linter.unusedVariables false
set_option linter.unusedSimpArgs false

theorem nobool_nullPart (x : Value) (w : World) : (Instr.typeAssert (.iface 103 x) 55 84 true).run Tryz.prog w = .ok (.tuple #[.agg #[.int .i64 0], .bool false]) w := by kernel_rfl
theorem nobool_unknownPart (x : Value) (w : World) : (Instr.typeAssert (.iface 104 x) 55 84 true).run Tryz.prog w = .ok (.tuple #[.agg #[.int .i64 0], .bool false]) w := by kernel_rfl
theorem nobool_intPart (x : Value) (w : World) : (Instr.typeAssert (.iface 85 x) 55 84 true).run Tryz.prog w = .ok (.tuple #[.agg #[.int .i64 0], .bool false]) w := by kernel_rfl
theorem nobool_textPart (x : Value) (w : World) : (Instr.typeAssert (.iface 87 x) 55 84 true).run Tryz.prog w = .ok (.tuple #[.agg #[.int .i64 0], .bool false]) w := by kernel_rfl
theorem nobool_listPart (x : Value) (w : World) : (Instr.typeAssert (.iface 90 x) 55 84 true).run Tryz.prog w = .ok (.tuple #[.agg #[.int .i64 0], .bool false]) w := by kernel_rfl
theorem nobool_mapPart (x : Value) (w : World) : (Instr.typeAssert (.iface 93 x) 55 84 true).run Tryz.prog w = .ok (.tuple #[.agg #[.int .i64 0], .bool false]) w := by kernel_rfl
theorem noint_nullPart (x : Value) (w : World) : (Instr.typeAssert (.iface 103 x) 55 85 true).run Tryz.prog w = .ok (.tuple #[.agg #[.int .i64 0], .bool false]) w := by kernel_rfl
theorem noint_unknownPart (x : Value) (w : World) : (Instr.typeAssert (.iface 104 x) 55 85 true).run Tryz.prog w = .ok (.tuple #[.agg #[.int .i64 0], .bool false]) w := by kernel_rfl
theorem noint_textPart (x : Value) (w : World) : (Instr.typeAssert (.iface 87 x) 55 85 true).run Tryz.prog w = .ok (.tuple #[.agg #[.int .i64 0], .bool false]) w := by kernel_rfl
theorem noint_listPart (x : Value) (w : World) : (Instr.typeAssert (.iface 90 x) 55 85 true).run Tryz.prog w = .ok (.tuple #[.agg #[.int .i64 0], .bool false]) w := by kernel_rfl
theorem noint_mapPart (x : Value) (w : World) : (Instr.typeAssert (.iface 93 x) 55 85 true).run Tryz.prog w = .ok (.tuple #[.agg #[.int .i64 0], .bool false]) w := by kernel_rfl
theorem notext_nullPart (x : Value) (w : World) : (Instr.typeAssert (.iface 103 x) 55 87 true).run Tryz.prog w = .ok (.tuple #[.agg #[.string ⟨#[]⟩], .bool false]) w := by kernel_rfl
theorem notext_unknownPart (x : Value) (w : World) : (Instr.typeAssert (.iface 104 x) 55 87 true).run Tryz.prog w = .ok (.tuple #[.agg #[.string ⟨#[]⟩], .bool false]) w := by kernel_rfl
theorem notext_listPart (x : Value) (w : World) : (Instr.typeAssert (.iface 90 x) 55 87 true).run Tryz.prog w = .ok (.tuple #[.agg #[.string ⟨#[]⟩], .bool false]) w := by kernel_rfl
theorem notext_mapPart (x : Value) (w : World) : (Instr.typeAssert (.iface 93 x) 55 87 true).run Tryz.prog w = .ok (.tuple #[.agg #[.string ⟨#[]⟩], .bool false]) w := by kernel_rfl
theorem nolist_nullPart (x : Value) (w : World) : (Instr.typeAssert (.iface 103 x) 55 90 true).run Tryz.prog w = .ok (.tuple #[.agg #[.slice none 0 0], .bool false]) w := by kernel_rfl
theorem nolist_unknownPart (x : Value) (w : World) : (Instr.typeAssert (.iface 104 x) 55 90 true).run Tryz.prog w = .ok (.tuple #[.agg #[.slice none 0 0], .bool false]) w := by kernel_rfl
theorem nolist_mapPart (x : Value) (w : World) : (Instr.typeAssert (.iface 93 x) 55 90 true).run Tryz.prog w = .ok (.tuple #[.agg #[.slice none 0 0], .bool false]) w := by kernel_rfl
theorem nomap_nullPart (x : Value) (w : World) : (Instr.typeAssert (.iface 103 x) 55 93 true).run Tryz.prog w = .ok (.tuple #[.agg #[.map none], .bool false]) w := by kernel_rfl
theorem nomap_unknownPart (x : Value) (w : World) : (Instr.typeAssert (.iface 104 x) 55 93 true).run Tryz.prog w = .ok (.tuple #[.agg #[.map none], .bool false]) w := by kernel_rfl
theorem is_boolPart (x : Value) (w : World) : (Instr.typeAssert (.iface 84 x) 55 84 true).run Tryz.prog w = .ok (.tuple #[x, .bool true]) w := by kernel_rfl
theorem is_intPart (x : Value) (w : World) : (Instr.typeAssert (.iface 85 x) 55 85 true).run Tryz.prog w = .ok (.tuple #[x, .bool true]) w := by kernel_rfl
theorem is_textPart (x : Value) (w : World) : (Instr.typeAssert (.iface 87 x) 55 87 true).run Tryz.prog w = .ok (.tuple #[x, .bool true]) w := by kernel_rfl
theorem is_listPart (x : Value) (w : World) : (Instr.typeAssert (.iface 90 x) 55 90 true).run Tryz.prog w = .ok (.tuple #[x, .bool true]) w := by kernel_rfl
theorem is_mapPart (x : Value) (w : World) : (Instr.typeAssert (.iface 93 x) 55 93 true).run Tryz.prog w = .ok (.tuple #[x, .bool true]) w := by kernel_rfl

end Go.Proofs.YteafpgaefphkfaaGreatDoor
/-
  The order of values: it is one; and values are alike just if their bytes are. Plain mathematics.
-/
namespace Go.Proofs.YteafpgaefphkfaaGreatDoor
open Go.RowKit
set_option linter.unusedVariables false
set_option linter.unusedSimpArgs false

theorem text_swap (a b : List Int) : bytesC b a = - bytesC a b := cmp_swap _ _

theorem byt_inj : ∀ {xs ys : List Int}, (∀ x ∈ xs, Byt x) → (∀ x ∈ ys, Byt x) → u8s xs = u8s ys → xs = ys
  | [], [], _, _, _ => rfl
  | [], _ :: _, _, _, h => by simp [u8s] at h
  | _ :: _, [], _, _, h => by simp [u8s] at h
  | x :: xs, y :: ys, hx, hy, h => by
    simp only [u8s, List.map_cons, List.cons.injEq] at h
    have e := byt_inj (fun z hz => hx z (by simp [hz])) (fun z hz => hy z (by simp [hz])) h.2
    have bx := hx x (by simp)
    have by' := hy y (by simp)
    unfold Byt at bx by'
    have h1 := congrArg UInt8.toNat h.1
    simp at h1
    rw [e]
    congr 1
    omega
theorem text_zero {xs ys : List Int} (hx : ∀ x ∈ xs, Byt x) (hy : ∀ x ∈ ys, Byt x) : bytesC xs ys = 0 ↔ xs = ys := by
  constructor
  · intro h
    exact byt_inj hx hy ((cmp_zero _ _).1 h)
  · rintro rfl
    exact (cmp_zero _ _).2 rfl

end Go.Proofs.YteafpgaefphkfaaGreatDoor
/-
  What is at a path of a value, step by step; no statement is proved here.
-/
namespace Go.Proofs.YteafpgaefphkfaaGreatDoor
open Go.RowKit
set_option linter.unusedVariables false
set_option linter.unusedSimpArgs false

/-- A value of whatever depth. -/
abbrev Nod : Type := (d : Nat) × Vl d

/-- The place of a step among a value's parts; -1: there is none. -/
def kidI (d : Nat) (v : Vl (d + 1)) (s : Stp) : Int :=
  if s.1 = 0 ∧ v.1 = 5 then findK v.2.2.2.1 s.2.1 else if s.1 = 1 ∧ v.1 = 4 ∧ s.2.2 < v.2.2.2.2.length then s.2.2 else -1

/-- What is at a step. -/
def stepN : Nod → Stp → Option Nod
  | ⟨0, _⟩, _ => none
  | ⟨d + 1, v⟩, s => if h : 0 ≤ kidI d v s ∧ (kidI d v s).toNat < v.2.2.2.2.length then some ⟨d, v.2.2.2.2[(kidI d v s).toNat]'h.2⟩ else none

theorem stepN_some {d : Nat} {v : Vl (d + 1)} {s : Stp} {k : Nat} (hk : k < v.2.2.2.2.length) (h : kidI d v s = k) : stepN ⟨d + 1, v⟩ s = some ⟨d, v.2.2.2.2[k]⟩ := by
  have e : (kidI d v s).toNat = k := by rw [h]; rfl
  have hp : 0 ≤ kidI d v s ∧ (kidI d v s).toNat < v.2.2.2.2.length := ⟨by rw [h]; omega, by rw [e]; exact hk⟩
  show (if h : 0 ≤ kidI d v s ∧ (kidI d v s).toNat < v.2.2.2.2.length then some (⟨d, v.2.2.2.2[(kidI d v s).toNat]'h.2⟩ : Nod) else none) = _
  rw [dif_pos hp]
  simp only [e]
theorem stepN_none {d : Nat} {v : Vl (d + 1)} {s : Stp} (h : kidI d v s < 0) : stepN ⟨d + 1, v⟩ s = none := dif_neg fun h' => by have := h'.1; omega

/-- What is at a path. -/
def alongN (o : Option Nod) (l : List Stp) : Option Nod := l.foldl (fun o s => o.bind fun n => stepN n s) o

theorem alongN_take (o : Option Nod) (l : List Stp) (k : Nat) (hk : k < l.length) : alongN o (l.take (k + 1)) = (alongN o (l.take k)).bind fun n => stepN n l[k] := by
  unfold alongN
  rw [List.take_succ_eq_append_getElem hk, List.foldl_append]
  rfl
theorem alongN_none : ∀ l : List Stp, alongN none l = none
  | [] => rfl
  | s :: l => alongN_none l
theorem alongN_on (o : Option Nod) (l r : List Stp) : alongN o (l ++ r) = alongN (alongN o l) r := List.foldl_append ..
/-- What At answers: something, or nothing. -/
def atN (d : Nat) (v : Vl d) (l : List Stp) : Option Nod := if okB d v = true ∧ pathB l = true then alongN (some ⟨d, v⟩) l else none
end Go.Proofs.YteafpgaefphkfaaGreatDoor
/-
  ValBytes of the specification: l2put.
-/
namespace Go.Proofs.YteafpgaefphkfaaGreatDoor
open Go.RowKit
set_option linter.unusedVariables false
set_option linter.unusedSimpArgs false

/-- The contract of l2put at depth d. -/
def SByAt (d : Nat) : Prop := ∀ (N : Nat) (a : Option Addr) (cap : Nat) (xs : List Int) (c : Value × Value × Value × Value × Value) (v : Vl d) (deep : Nat) (w : World), VSeg (fun b => b < N) w d c v → N ≤ w.heap.size → Seg w a xs → (a = none → cap = 0) → goodB d v deep = true → xs.length + 60 * partsV d v ≤ 1000000 →
  Calls Tryz.prog 47 #[.slice a xs.length cap, .agg #[c.1, c.2.1, c.2.2.1, c.2.2.2.1, c.2.2.2.2]] w fun e w' => ∃ u, e = .returned u ∧ Bts w' w.heap.size u (bytV d v xs) ∧ Below w.heap.size w w'

/-- What a call of PutNum or PutText has left. -/
def PEnd (w : World) (ys : List Int) (e : Ending) (w' : World) : Prop := ∃ a c, e = .returned (.slice a ys.length c) ∧ Bts w' w.heap.size (.slice a ys.length c) ys ∧ Below w.heap.size w w' ∧ (a = none → c = 0)

theorem pend_of {w w' : World} {e : Ending} {ys : List Int} (h : ∃ v, e = .returned v ∧ Bts w' w.heap.size v ys ∧ Below w.heap.size w w') : PEnd w ys e w' := by
  obtain ⟨v, rfl, h1, h2⟩ := h
  obtain ⟨a, c, rfl, _, _, _, _, k⟩ := h1.shape
  exact ⟨a, c, rfl, h1, h2, k⟩

theorem spec_PutNum_end (a : Option Addr) (cap : Nat) (xs : List Int) (n : Int) (w : World) (hs : Seg w a xs) (hc : a = none → cap = 0) (hl : xs.length ≤ 2097152) : Calls Tryz.prog 58 #[.slice a xs.length cap, .int .i64 n] w (PEnd w (putNum xs n)) :=
  (spec_PutNum_any a cap xs n w hs hc hl).mono fun e w' h => pend_of h
theorem spec_PutText_end (a b : Option Addr) (c1 c2 : Nat) (xs ts : List Int) (w : World) (ha : Seg w a xs) (hb : Seg w b ts) (ka : a = none → c1 = 0) (kb : b = none → c2 = 0) (hl : xs.length ≤ 2097152) (hl2 : ts.length ≤ 2097152) : Calls Tryz.prog 59 #[.slice a xs.length c1, .slice b ts.length c2] w (PEnd w (putText xs ts)) :=
  (spec_PutText_any a b c1 c2 xs ts w ha hb ka kb hl hl2).mono fun e w' h => pend_of h

set_option maxHeartbeats 1000000 in
set_option maxRecDepth 100000 in
theorem l2put_leaf (d N : Nat) (a : Option Addr) (cap : Nat) (xs : List Int) (vk vn : Int) (vs : List Int) (vK : List (List Int)) (vL : List (Vl d)) (a2 : Option Addr) (p2 : Nat) (c3 c4 : Value) (w : World) (hs : Seg w a xs) (ka : a = none → cap = 0) (hl : xs.length ≤ 1000000) (s2 : Seg w a2 vs) (k2 : a2 = none → p2 = 0) (m2 : vs.length ≤ 1000000)
    (h3 : ∃ b n p, c3 = .slice b n p) (h4 : ∃ b n p, c4 = .slice b n p) (hk : vk = 0 ∨ vk = 6 ∨ vk = 1 ∨ vk = 3) :
    Calls Tryz.prog 47 #[.slice a xs.length cap, .agg #[.int .i64 vk, .int .i64 vn, .slice a2 vs.length p2, c3, c4]] w fun e w' => ∃ u, e = .returned u ∧ Bts w' w.heap.size u (bytV (d + 1) (vk, vn, vs, vK, vL) xs) ∧ Below w.heap.size w w' := by
  obtain ⟨b3, n3, q3, rfl⟩ := h3
  obtain ⟨b4, n4, q4, rfl⟩ := h4
  have b0 : ∀ o : Obj, Below w.heap.size w (w.alloc o) := fun o => (Below.refl _ _).alloc (Nat.le_refl _) o
  have Hb := hide' b0
  have H1 : Hid (∀ o : Obj, Calls Tryz.prog 58 #[.slice a xs.length cap, .int .i64 vk] (w.alloc o) (PEnd (w.alloc o) (putNum xs vk))) := fun o => spec_PutNum_end a cap xs vk _ (hs.grow (b0 o)) ka (by omega)
  have hpl := putNum_len xs vk
  have HS2 : Hid (∀ wx, Below w.heap.size w wx → Seg wx a2 vs) := fun wx hb => s2.grow hb
  have HP : Hid (∀ (a1 : Option Addr) (c1 : Nat) (ys : List Int) (n : Int) (wx : World), Bts wx 0 (.slice a1 ys.length c1) ys → (a1 = none → c1 = 0) → ys.length ≤ 2000000 → Calls Tryz.prog 58 #[.slice a1 ys.length c1, .int .i64 n] wx (PEnd wx (putNum ys n))) := fun a1 c1 ys n wx hB k hlen => spec_PutNum_end a1 c1 ys n wx hB.seg k (by omega)
  have HT : Hid (∀ (a1 : Option Addr) (c1 : Nat) (ys : List Int) (wx : World), Bts wx 0 (.slice a1 ys.length c1) ys → (a1 = none → c1 = 0) → ys.length ≤ 2000000 → Below w.heap.size w wx → Calls Tryz.prog 59 #[.slice a1 ys.length c1, .slice a2 vs.length p2] wx (PEnd wx (putText ys vs))) := fun a1 c1 ys wx hB k hlen hbw => spec_PutText_end a1 a2 c1 p2 ys vs wx hB.seg (HS2.out wx hbw) k k2 (by omega) (by omega)
  clear b0 hs s2
  rcases hk with hk | hk | rfl | rfl
  · subst hk
    have HF : Hid (bytV (d + 1) (0, vn, vs, vK, vL) xs = putNum xs 0) := bytV_bare d 0 vn (.inl rfl) vs vK vL xs
    go_enter Tryz.func47, Tryz.ntmps47
    go_wp2_with fail
    refine (H1.out _).mono ?_
    rintro e w1 ⟨a1, c1, rfl, hB1, b1, k1⟩
    obtain ⟨y0, y1, y2, y3, y4, _⟩ := row5 (box_row b1)
    have B1 := Below.on (Hb.out _) b1
    have HB1 := hide' (hB1.mono (base' := w.heap.size) (by simp))
    generalize (putNum xs 0).length = n1 at *
    clear b1 hB1
    go_wp2
    go_ret
    exact ⟨_, rfl, by rw [HF.out]; exact HB1.out, B1⟩
  · subst hk
    have HF : Hid (bytV (d + 1) (6, vn, vs, vK, vL) xs = putNum xs 6) := bytV_bare d 6 vn (.inr rfl) vs vK vL xs
    go_enter Tryz.func47, Tryz.ntmps47
    go_wp2_with fail
    refine (H1.out _).mono ?_
    rintro e w1 ⟨a1, c1, rfl, hB1, b1, k1⟩
    obtain ⟨y0, y1, y2, y3, y4, _⟩ := row5 (box_row b1)
    have B1 := Below.on (Hb.out _) b1
    have HB1 := hide' (hB1.mono (base' := w.heap.size) (by simp))
    generalize (putNum xs 6).length = n1 at *
    clear b1 hB1
    go_wp2
    go_ret
    exact ⟨_, rfl, by rw [HF.out]; exact HB1.out, B1⟩
  · have HF : Hid (bytV (d + 1) (1, vn, vs, vK, vL) xs = putNum (putNum xs 1) vn) := bytV_bool d vn vs vK vL xs
    go_enter Tryz.func47, Tryz.ntmps47
    go_wp2_with fail
    refine (H1.out _).mono ?_
    rintro e w1 ⟨a1, c1, rfl, hB1, b1, k1⟩
    obtain ⟨y0, y1, y2, y3, y4, _⟩ := row5 (box_row b1)
    have B1 := Below.on (Hb.out _) b1
    have H2 := hide' (HP.out a1 c1 (putNum xs 1) vn w1 (hB1.mono (by omega)) k1 (by omega))
    generalize putNum xs 1 = z1 at *
    generalize z1.length = n1 at *
    clear b1 hB1
    go_wp2_with fail
    refine H2.out.mono ?_
    rintro e w2 ⟨a2', c2', rfl, hB2, b2, k2'⟩
    have B2 := Below.on B1 b2
    have HB2 := hide' (hB2.mono (base' := w.heap.size) B1.size)
    generalize (putNum z1 vn).length = n2 at *
    clear b2 hB2 H2
    go_wp2
    go_ret
    exact ⟨_, rfl, by rw [HF.out]; exact HB2.out, B2⟩
  · have HF : Hid (bytV (d + 1) (3, vn, vs, vK, vL) xs = putText (putNum xs 3) vs) := bytV_text d vn vs vK vL xs
    go_enter Tryz.func47, Tryz.ntmps47
    go_wp2_with fail
    refine (H1.out _).mono ?_
    rintro e w1 ⟨a1, c1, rfl, hB1, b1, k1⟩
    obtain ⟨y0, y1, y2, y3, y4, _⟩ := row5 (box_row b1)
    have B1 := Below.on (Hb.out _) b1
    have H2 := hide' (HT.out a1 c1 (putNum xs 3) w1 (hB1.mono (by omega)) k1 (by omega) B1)
    generalize putNum xs 3 = z1 at *
    generalize z1.length = n1 at *
    clear b1 hB1
    go_wp2_with fail
    refine H2.out.mono ?_
    rintro e w2 ⟨a2', c2', rfl, hB2, b2, k2'⟩
    have B2 := Below.on B1 b2
    have HB2 := hide' (hB2.mono (base' := w.heap.size) B1.size)
    generalize (putText z1 vs).length = n2 at *
    clear b2 hB2 H2
    go_wp2
    go_ret
    exact ⟨_, rfl, by rw [HF.out]; exact HB2.out, B2⟩
end Go.Proofs.YteafpgaefphkfaaGreatDoor
