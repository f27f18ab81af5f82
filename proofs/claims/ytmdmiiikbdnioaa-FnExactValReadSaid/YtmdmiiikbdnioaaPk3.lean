/-
  Texts that a law leans on, one behind the other; no statement is proved here.
-/
import Derived.Test.YtmdmiiikbdnioaaPk1
import Derived.WalkKit
import Derived.ProofKit
import Derived.ChangeSlices
import Derived.ChangeArms
import Derived.Test.YtmdmiiikbdnioaaPk0
import Derived.Lib.AppendStr
/-
  A text that came in, as its reading has it, can be read: 'TSeg'.
-/
namespace Go.Proofs.Ytmdmiiikbdnioaa
open Go.ChangeShapes Go.WideShapes Go.ChangeAt Go.RowKit
set_option linter.unusedVariables false
set_option linter.unusedSimpArgs false
set_option maxRecDepth 100000

theorem cellsT : Try.prog.cellsOf 22 = 1 := by kernel_rfl
theorem cellsI : Try.prog.cellsOf 3 = 1 := by kernel_rfl

theorem list_of {α : Type} {Q : Nat → α → Prop} : ∀ n, (∀ i, i < n → ∃ x, Q i x) → ∃ l : List α, l.length = n ∧ ∀ i (h : i < l.length), Q i l[i]
  | 0, _ => ⟨[], rfl, fun i h => by simp at h⟩
  | n + 1, hq => by
    obtain ⟨l, hl, hi⟩ := list_of n (fun i hi => hq i (by omega))
    obtain ⟨x, hx⟩ := hq n (by omega)
    refine ⟨l ++ [x], by simp [hl], fun i h => ?_⟩
    by_cases e : i < l.length
    · rw [List.getElem_append_left e]; exact hi i e
    · have : i = n := by simp at h; omega
      subst this
      rw [List.getElem_append_right (by omega)]
      simpa using hx

variable {H : Type} {enc : TypeId × Value → H} {w : World}

theorem read_text {fuel : Nat} {cs : List Value} {x : DataW H × List MemPlace} (h : DataW.trod enc Try.prog w 0 (fun _ => true) true fuel 22 cs = some x) : ∃ u xs, cs = [u] ∧ TSeg (fun b => b < w.heap.size) w u xs := by
  rcases open_ints Try.underlying22 Try.underlying5 (by kernel_rfl) h with ⟨rfl, _⟩ | ⟨a, len, cap, zs, rfl, _, hl, hm, hz, _, hcell, hwz⟩
  · exact ⟨_, [], rfl, none, 0, rfl, ⟨by simp, .inl rfl⟩, Nat.le_refl _, Nat.zero_le _, fun _ => rfl, by simp⟩
  · obtain ⟨xs, e, hs, h1, h2, h3⟩ := seg_of_row (w := w) (a := some a) (len := len) (cap := cap) (zs := zs) (.inr ⟨a, rfl, hl, hm, by simpa using hz, hcell, hwz⟩)
    subst e
    exact ⟨_, xs, rfl, some a, cap, rfl, hs, h1, h2, h3, hs.lt⟩

end Go.Proofs.Ytmdmiiikbdnioaa
/-
  A string of bytes as cells; 'append(out, s...)' of a string.
-/
namespace Go.Proofs.Ytmdmiiikbdnioaa
open Go.RowKit
set_option linter.unusedVariables false

theorem strCells_of {xs : List Int} (h : ∀ x ∈ xs, Byt x) : Lib.strCells (strOf xs) = cellsOf xs := by
  show (u8s xs).map (fun b => Value.int .u8 (b.toNat : Int)) = _
  unfold u8s cellsOf
  rw [List.map_map]
  refine List.map_congr_left fun x hx => ?_
  have hb := h x hx
  unfold Byt at hb
  simp
  omega

theorem size_strOf (xs : List Int) : (strOf xs).size = xs.length := by simp [strOf, ByteArray.size]

/-- 'append(out, s...)', out nil or the call's own, s a string: what is owned grows by the bytes of s. -/
theorem wpList_append_text {w : World} {ops : Array Oper} {rest : List Oper} {o : Oper} {a : Act} {Q : Exit → Act → World → Prop} (hgd : o.guard = none) (s x : Operand) (t : TypeId)
    (ho : o.op = .call { callee := .builtin .append, args := #[s, x], argTypes := #[22, t] }) (ht : Try.prog.underlying t = some .string)
    (base : Nat) (v : Value) (xs ys : List Int) (hs : a.eval s = v) (hB : Bts w base v xs) (sx : ByteArray) (hsx : sx = strOf ys) (hy : ∀ y ∈ ys, Byt y) (hx : a.eval x = .string sx)
    (hlen : xs.length + ys.length ≤ 1099511627776) (hbase : base ≤ w.heap.size)
    (h : ∀ v' w', Bts w' base v' (xs ++ ys) → w.grownBy w' v.ownBlock → wpList Try.prog ops Q rest (a.put o.dst v') w') : wpList Try.prog ops Q (o :: rest) a w := by
  obtain ⟨i0, hi, hz0, hz1, hz2⟩ := info_parts info5
  subst hsx
  have hsz := size_strOf ys
  refine Lib.wpList_append_own_string w hgd s x 22 t ho base 5 i0 Try.underlying22 ht hi hz0 hz1 hz2 v xs.length (cellsOf xs) hs hB.2 (strOf ys) hx (by unfold maxLen; omega) (by omega) hbase ?_
  intro v' w' hown hg _
  refine h v' w' ⟨?_, ?_⟩ hg
  · intro z hz
    rcases List.mem_append.1 hz with h1 | h1
    · exact hB.1 z h1
    · exact hy z h1
  · rw [strCells_of hy, hsz, ← cellsOf_append] at hown
    rw [List.length_append]
    exact hown

end Go.Proofs.Ytmdmiiikbdnioaa
/-
  sort.Slice as the program's fields calls it: at fields (a key, a part), by the keys.
-/
namespace Go.Proofs.Ytmdmiiikbdnioaa
open Go.Shelf Go.RowKit Go.Lib Go.Sort
set_option linter.unusedVariables false
set_option linter.unusedSimpArgs false

/-- A field: its key's bytes, its part's type and what that holds. -/
def encF (x : List UInt8 × (TypeId × Value)) : List Value := [.string ⟨x.1.toArray⟩, .iface x.2.1 x.2.2]
/-- One field is ahead of another one. -/
def ltF (x y : List UInt8 × (TypeId × Value)) : Bool := Op.bytesLess x.1 y.1

theorem less_irrefl : ∀ a : List UInt8, Op.bytesLess a a = false
  | [] => rfl
  | x :: a => by
    have ih := less_irrefl a
    have h : ¬ x < x := UInt8.lt_irrefl x
    simp [Op.bytesLess, ih, h]

theorem less_trans : ∀ a b c : List UInt8, Op.bytesLess a b = true → Op.bytesLess b c = true → Op.bytesLess a c = true
  | [], b, [], _, h2 => by cases b <;> simp [Op.bytesLess] at h2
  | [], _, _ :: _, _, _ => rfl
  | _ :: _, [], _, h1, _ => by simp [Op.bytesLess] at h1
  | _ :: _, _ :: _, [], _, h2 => by simp [Op.bytesLess] at h2
  | x :: a, y :: b, z :: c, h1, h2 => by
    have ih := less_trans a b c
    simp only [Op.bytesLess, Bool.or_eq_true, decide_eq_true_eq, Bool.and_eq_true, beq_iff_eq] at h1 h2 ⊢
    rcases h1 with h1 | ⟨rfl, h1⟩
    · rcases h2 with h2 | ⟨rfl, h2⟩
      · exact .inl (UInt8.lt_trans h1 h2)
      · exact .inl h1
    · rcases h2 with h2 | ⟨rfl, h2⟩
      · exact .inl h2
      · exact .inr ⟨rfl, ih h1 h2⟩

theorem less_total : ∀ a b : List UInt8, Op.bytesLess a b = false → Op.bytesLess b a = false → a = b
  | [], [], _, _ => rfl
  | [], _ :: _, h, _ => by simp [Op.bytesLess] at h
  | _ :: _, [], _, h => by simp [Op.bytesLess] at h
  | x :: a, y :: b, h1, h2 => by
    have ih := less_total a b
    simp only [Op.bytesLess, Bool.or_eq_false_iff, decide_eq_false_iff_not, Bool.and_eq_false_iff, beq_eq_false_iff_ne] at h1 h2
    have e : x = y := UInt8.le_antisymm (UInt8.not_lt.1 h2.1) (UInt8.not_lt.1 h1.1)
    subst e
    rw [ih (h1.2.resolve_left (fun h => h rfl)) (h2.2.resolve_left (fun h => h rfl))]

theorem swo_ltF : SWO ltF where
  irrefl x := less_irrefl x.1
  trans x y z h1 h2 := less_trans x.1 y.1 z.1 h1 h2
  ntrans x y z h1 h2 := by
    show Op.bytesLess x.1 z.1 = false
    cases h : Op.bytesLess x.1 z.1 with
    | false => rfl
    | true =>
      have h1' : Op.bytesLess x.1 y.1 = false := h1
      have h2' : Op.bytesLess y.1 z.1 = false := h2
      cases h3 : Op.bytesLess y.1 x.1 with
      | true => rw [less_trans _ _ _ h3 h] at h2'; simp at h2'
      | false =>
        have e := less_total _ _ h1' h3
        rw [e] at h
        rw [h] at h2'
        simp at h2'

set_option maxHeartbeats 2000000 in
/-- The closure of fields. -/
theorem fields_less (blk off c Bs size : Nat) (W : World) (G : Nat → List UInt8) (hs : W.cell? ⟨Bs, 0, none⟩ = some (.slice (some ⟨blk, off, none⟩) size c))
    (hc : ∀ t, t < size → W.cell? ⟨blk, off + t * 2, none⟩ = some (.string ⟨(G t).toArray⟩)) (i j : Nat) (hi : i < size) (hj : j < size) (_hsz : size < 4611686018427387904) :
    Calls Try.prog 55 #[.int .i64 i, .int .i64 j, .pointer (some ⟨Bs, 0, none⟩)] W fun e w' => e = .returned (.bool (Op.bytesLess (G i) (G j))) ∧ ∃ q, w' = W.drewN q := by
  have ci := hc i hi
  have cj := hc j hj
  have hi' : (i : Int) < (size : Int) := by omega
  have hj' : (j : Int) < (size : Int) := by omega
  go_enter Try.func55, Try.ntmps55
  go_wp2
  go_quiet (fail)
  go_wp2
  go_ret
  exact ⟨ret_bool (by simp [ByteArray.toList_mk]), nq, rfl⟩
end Go.Proofs.Ytmdmiiikbdnioaa
/-
  A text that is read: its bytes, and that nil has no room.
-/
namespace Go.Proofs.Ytmdmiiikbdnioaa
open Go.RowKit
set_option linter.unusedVariables false

theorem TSeg.out {R : Nat → Prop} {w : World} {a : Option Addr} {n c : Nat} {xs : List Int} (h : TSeg R w (.slice a n c) xs) : Seg w a xs ∧ (a = none → c = 0) := by
  obtain ⟨a', c', h1, h2, h3, h4, h5, _⟩ := h
  simp only [Value.slice.injEq] at h1
  obtain ⟨rfl, _, rfl⟩ := h1
  exact ⟨h2, h5⟩
end Go.Proofs.Ytmdmiiikbdnioaa
/-
  A row of bytes of the call's own that may bear a mark of the run-time behind its last cell (as '[]byte(s)' lays one): it is read and written as any other.
-/
namespace Go.Proofs.Ytmdmiiikbdnioaa
open Go.RowKit
set_option linter.unusedVariables false

/-- A row of the call's own; no cell of it is frozen. -/
def RowF (w : World) (v : Value) (n : Nat) (xs : List Value) : Prop :=
  xs.length = n ∧ ((v = .slice none 0 0 ∧ n = 0) ∨
    ∃ (g cap : Nat) (cur : Array Value) (fr : Nat × Nat), v = .slice (some ⟨g, 0, none⟩) n cap ∧ w.heap[g]? = some (.cells cur 5 fr) ∧ (fr.2 = 0 ∨ cap ≤ fr.1) ∧ n ≤ cap ∧ cap ≤ maxLen ∧ cur.size = cap ∧ cur.toList.take n = xs)

/-- The slice value 'v' owns such a row, that holds 'xs'. -/
def BtsF (w : World) (v : Value) (xs : List Int) : Prop := (∀ x ∈ xs, Byt x) ∧ RowF w v xs.length (cellsOf xs)

theorem Bts.free {w : World} {base : Nat} {v : Value} {xs : List Int} (h : Bts w base v xs) : BtsF w v xs := by
  obtain ⟨hb, hl, h0 | ⟨g, cap, cur, h1, _, h3, h4, h5, h6, h7⟩⟩ := h
  · exact ⟨hb, by simp [cellsOf], .inl h0⟩
  · exact ⟨hb, by simp [cellsOf], .inr ⟨g, cap, cur, (0, 0), h1, h3, .inl rfl, h4, h5, by omega, by rw [Nat.mul_one] at h7; exact h7⟩⟩

theorem RowF.cellAt {w : World} {g n cap : Nat} {xs : List Value} (h : RowF w (.slice (some ⟨g, 0, none⟩) n cap) n xs) (j : Nat) (hj : j < n) : w.cell? ⟨g, j, none⟩ = xs[j]? := by
  rcases h.2 with ⟨h', _⟩ | ⟨g', cap', cur, fr, h', hg, _, _, _, _, htake⟩
  · simp at h'
  · simp only [Value.slice.injEq, Option.some.injEq, Addr.mk.injEq, and_true, true_and] at h'
    obtain ⟨rfl, rfl⟩ := h'
    rw [cell_of_row w g j cur 5 fr hg, ← htake, List.getElem?_take, if_pos hj]
    simp

theorem RowF.frozenAt {w : World} {g n cap : Nat} {xs : List Value} (h : RowF w (.slice (some ⟨g, 0, none⟩) n cap) n xs) (j : Nat) (hj : j < n) : w.frozen? ⟨g, j, none⟩ = false := by
  rcases h.2 with ⟨h', _⟩ | ⟨g', cap', cur, fr, h', hg, hf, hn, _⟩
  · simp at h'
  · simp only [Value.slice.injEq, Option.some.injEq, Addr.mk.injEq, and_true, true_and] at h'
    obtain ⟨rfl, rfl⟩ := h'
    obtain ⟨lo, hi⟩ := fr
    simp only [World.frozen?, hg]
    simp only at hf
    simp
    omega

theorem heap_setCell_fr (w : World) (g i : Nat) (cs : Array Value) (t : TypeId) (fr : Nat × Nat) (v : Value) (hg : w.heap[g]? = some (.cells cs t fr)) : (w.setCell ⟨g, i, none⟩ v).heap[g]? = some (.cells (cs.setIfInBounds i v) t fr) := by
  have h2 := (Array.getElem?_eq_some_iff.1 hg).1
  simp [World.setCell, Array.getElem?_modify, hg]

theorem RowF.stored {w : World} {g n cap : Nat} {xs : List Value} (h : RowF w (.slice (some ⟨g, 0, none⟩) n cap) n xs) (j : Nat) (u : Value) :
    RowF (w.setCell ⟨g, j, none⟩ u) (.slice (some ⟨g, 0, none⟩) n cap) n (xs.set j u) ∧ w.grownBy (w.setCell ⟨g, j, none⟩ u) (some g) := by
  rcases h.2 with ⟨h', _⟩ | ⟨g', cap', cur, fr, h', hg, hf, hn, hm, hs, htake⟩
  · simp at h'
  · simp only [Value.slice.injEq, Option.some.injEq, Addr.mk.injEq, and_true, true_and] at h'
    obtain ⟨rfl, rfl⟩ := h'
    refine ⟨⟨by simpa using h.1, .inr ⟨g, cap, cur.setIfInBounds j u, fr, rfl, heap_setCell_fr w g j cur 5 fr u hg, hf, hn, hm, by simpa using hs, ?_⟩⟩, ⟨rfl, rfl, rfl, by simp [World.setCell], fun k _ hk => Below.heap_setCell w ⟨g, j, none⟩ u k (fun e => hk (by simp [e]))⟩⟩
    rw [Array.toList_setIfInBounds, ← htake, List.take_set]

theorem BtsF.shape {w : World} {v : Value} {xs : List Int} (h : BtsF w v xs) : ∃ a cap, v = .slice a xs.length cap ∧ Seg w a xs ∧ xs.length ≤ cap ∧ cap ≤ maxLen ∧ (∀ x, a = some x → 0 ≤ x.block ∧ x.block < w.heap.size ∧ x.off = 0 ∧ x.spot = none) ∧ (a = none → cap = 0) := by
  obtain ⟨hb, ho⟩ := h
  have ho' := ho
  obtain ⟨hl, hc⟩ := ho
  rcases hc with ⟨rfl, h0⟩ | ⟨g, cap, cur, fr, rfl, hh, hf, hle, hm, hsz, htake⟩
  · have : xs = [] := List.eq_nil_of_length_eq_zero h0
    subst this
    exact ⟨none, 0, rfl, ⟨hb, .inl rfl⟩, Nat.le_refl _, Nat.zero_le _, by simp, fun _ => rfl⟩
  · refine ⟨some ⟨g, 0, none⟩, cap, rfl, ⟨hb, .inr ⟨g, 0, rfl, fun i hi => ?_⟩⟩, hle, hm, ?_, by simp⟩
    · have := RowF.cellAt ho' i (by omega)
      rw [Nat.zero_add, this]
      simp [cellsOf, hi]
    · rintro x hx
      simp at hx
      subst hx
      exact ⟨Nat.zero_le _, (Array.getElem?_eq_some_iff.1 hh).1, rfl, rfl⟩

theorem RowF.lt {w : World} {v : Value} {n : Nat} {xs : List Value} (h : RowF w v n xs) : ∀ k, v.ownBlock = some k → k < w.heap.size := by
  intro k hk
  rcases h.2 with ⟨rfl, _⟩ | ⟨g, cap, cur, fr, rfl, hh, _⟩
  · simp [Value.ownBlock] at hk
  · simp [Value.ownBlock] at hk
    subst hk
    exact (Array.getElem?_eq_some_iff.1 hh).1
end Go.Proofs.Ytmdmiiikbdnioaa
/-
  szByteSS, szValueS, szValue of the laws: what is left of a bound behind a value's weight, or -1.
-/
namespace Go.Proofs.Ytmdmiiikbdnioaa
open Go.RowKit
set_option linter.unusedVariables false

end Go.Proofs.Ytmdmiiikbdnioaa
/-
  joined, PutNum and NumLen of the program, NumLen of the specification.
-/
namespace Go.Proofs.Ytmdmiiikbdnioaa
open Go.RowKit
set_option linter.unusedVariables false

theorem bts_made {w1 : World} {base g cap : Nat} (h : w1.ownsRow base 5 1 (.slice (some ⟨g, 0, none⟩) 0 cap) 0 []) : Bts w1 base (.slice (some ⟨g, 0, none⟩) 0 cap) [] := ⟨by simp, by simpa [cellsOf] using h⟩

theorem slice5 (w : World) (b dl : Nat) (h : dl ≤ 5) : (Instr.sliceAt 93 (.pointer (some ⟨b, 0, none⟩)) none (some (.int .i64 dl)) none).run Try.prog w = .ok (.slice (some ⟨b, 0, none⟩) dl 5) w := by
  rcases (show dl = 0 ∨ dl = 1 ∨ dl = 2 ∨ dl = 3 ∨ dl = 4 ∨ dl = 5 from by omega) with rfl | rfl | rfl | rfl | rfl | rfl <;> kernel_rfl

set_option maxHeartbeats 800000 in
theorem joined_any (a b : Option Addr) (c1 c2 : Nat) (xs ys : List Int) (w : World) (ha : Seg w a xs) (hb : Seg w b ys) (ka : a = none → c1 = 0) (kb : b = none → c2 = 0) (hl1 : xs.length ≤ 4194304) (hl2 : ys.length ≤ 4194304) :
    Calls Try.prog 53 #[.slice a xs.length c1, .slice b ys.length c2] w fun e w' => ∃ v, e = .returned v ∧ Bts w' w.heap.size v (xs ++ ys) ∧ Below w.heap.size w w' := by
  obtain ⟨i0, hi, hz0, hz1, hz2⟩ := info_parts info5
  generalize hn1 : xs.length = n1
  generalize hn2 : ys.length = n2
  have Hn1 : Hid (n1 = xs.length) := hn1.symm
  have Hn2 : Hid (n2 = ys.length) := hn2.symm
  have hm1 : n1 ≤ 4194304 := by omega
  have hm2 : n2 ≤ 4194304 := by omega
  clear hn1 hn2
  go_enter Try.func53, Try.ntmps53
  go_wp2_with (first | (refine wpList_make_own _ rfl _ _ 22 rfl w.heap.size 5 i0 (.int .u8 0) 1 Try.underlying22 hi hz0 hz1 .i64 .i64 _ (n1 + n2) rfl rfl (by omega) (by rw [hz2]; omega) (by unfold maxLen; omega) (Nat.le_refl _) ?_; intro w1 hown hgrow; have hE := bts_made hown; have hB1 : Below w.heap.size w w1 := (Below.refl _ _).grown hgrow (Nat.le_refl _) (by simp); have hS1 := ha.grow hB1; have hz1 : w.heap.size ≤ w1.heap.size := hB1.size; clear hown hgrow) | (at_builtin; refine wpList_append_seg rfl (.tmp 12) (.tmp 13) rfl w.heap.size _ [] xs rfl hE a n1 c1 Hn1.out rfl hS1 ka (by simp; omega) hz1 ?_; intro v2 w2 hv2 hg2; have hB2 : Below w.heap.size w w2 := hB1.grown hg2 hz1 hE.own; have hS2 := hb.grow hB2; have hz2 : w.heap.size ≤ w2.heap.size := hB2.size; simp only [List.nil_append] at hv2; clear hg2 hE hS1) | (at_builtin; refine wpList_append_seg rfl (.tmp 15) (.tmp 16) rfl w.heap.size _ xs ys rfl hv2 b n2 c2 Hn2.out rfl hS2 kb (by omega) hz2 ?_; intro v3 w3 hv3 hg3))
  go_ret
  exact ⟨_, rfl, hv3, hB2.grown hg3 hz2 hv2.own⟩

/-- The first bytes of an array of five. -/
theorem seg_arr5 (w : World) (c0 c1 c2 c3 c4 : Int) (ds : List Int) (k : Nat) (h : [c0, c1, c2, c3, c4] = ds ++ List.replicate k 0) (hb : ∀ x ∈ ds, Byt x) :
    Seg (w.alloc (.cells #[.int .u8 c0, .int .u8 c1, .int .u8 c2, .int .u8 c3, .int .u8 c4] 93)) (some ⟨w.heap.size, 0, none⟩) ds := by
  refine ⟨hb, .inr ⟨w.heap.size, 0, rfl, fun i hi => ?_⟩⟩
  have hlen := congrArg List.length h
  simp at hlen
  have h5 : i < 5 := by omega
  have hd : [c0, c1, c2, c3, c4].getD i 0 = ds.getD i 0 := by
    rw [h]
    simp [List.getD_eq_getElem?_getD, List.getElem?_append, hi]
  rw [← hd, Nat.zero_add]
  rcases (show i = 0 ∨ i = 1 ∨ i = 2 ∨ i = 3 ∨ i = 4 from by omega) with rfl | rfl | rfl | rfl | rfl <;> simp

set_option maxHeartbeats 800000 in
theorem impl_PutNum_any (a : Option Addr) (cap : Nat) (xs : List Int) (n : Int) (w : World) (hs : Seg w a xs) (hc : a = none → cap = 0) (hl : xs.length ≤ 2097152) :
    Calls Try.prog 37 #[.slice a xs.length cap, .int .i64 n] w fun e w' => ∃ v, e = .returned v ∧ Bts w' w.heap.size v (putNum xs n) ∧ Below w.heap.size w w' := by
  by_cases h : n < 0 ∨ 2147483647 < n
  · have Hp : Hid (putNum xs n = xs) := putNum_no xs n h
    go_enter Try.func37, Try.ntmps37
    go_wp2_with fail
    refine (numDigits_no n _ h).mono ?_
    rintro e w1 ⟨rfl, b1⟩
    have b2 : Below w.heap.size w (w1.alloc (.cells #[.int .u8 0, .int .u8 0, .int .u8 0, .int .u8 0, .int .u8 0] 93)) := b1.alloc b1.size _
    have hsz := b1.size
    go_wp2_with fail
    refine (joined_any _ _ _ _ xs [] _ (hs.grow b2) ⟨by simp, .inl rfl⟩ hc (by simp) (by omega) (by simp)).mono ?_
    rintro e w3 ⟨v, rfl, hv, b3⟩
    simp only [List.append_nil] at hv
    go_wp2
    go_ret
    exact ⟨_, rfl, by rw [Hp.out]; exact hv.mono (by simp; omega), Below.on b2 b3⟩
  · obtain ⟨m, rfl⟩ := Int.eq_ofNat_of_zero_le (show 0 ≤ n by omega)
    have hm : m ≤ 2147483647 := by omega
    have hp : putNum xs m = xs ++ digs m := by
      have := putNum_yes xs m (by omega) (by omega)
      simpa using this
    have Hp : Hid (putNum xs m = xs ++ digs m) := hp
    clear hp
    clear h
    go_enter Try.func37, Try.ntmps37
    go_wp2_with fail
    refine (numDigits_yes m _ hm).mono ?_
    rintro e w1 ⟨c0, c1, c2, c3, c4, rfl, hcs, b1⟩
    have hlen := digs_len m hm
    have b2 : Below w.heap.size w (w1.alloc (.cells #[.int .u8 c0, .int .u8 c1, .int .u8 c2, .int .u8 c3, .int .u8 c4] 93)) := b1.alloc b1.size _
    have hS := seg_arr5 w1 c0 c1 c2 c3 c4 (digs m) _ hcs (digs_byt m)
    have hsz := b1.size
    clear hcs
    have hJ := fun (wx : World) (ha : Seg wx a xs) (hb : Seg wx (some ⟨w1.heap.size, 0, none⟩) (digs m)) => joined_any a (some ⟨w1.heap.size, 0, none⟩) cap 5 xs (digs m) wx ha hb hc (by simp) (by omega) (by omega)
    have HJ : Hid (∀ (wx : World) (ha : Seg wx a xs) (hb : Seg wx (some ⟨w1.heap.size, 0, none⟩) (digs m)), Calls Try.prog 53 #[.slice a xs.length cap, .slice (some ⟨w1.heap.size, 0, none⟩) (digs m).length 5] wx fun e w' => ∃ v, e = .returned v ∧ Bts w' wx.heap.size v (xs ++ digs m) ∧ Below wx.heap.size wx w') := hJ
    clear hJ
    generalize (digs m).length = dl at *
    have hsl := fun wx => slice5 wx w1.heap.size dl hlen
    go_wp2_with fail
    refine (HJ.out _ (hs.grow b2) hS).mono ?_
    rintro e w3 ⟨v, rfl, hv, b3⟩
    go_wp2
    go_ret
    exact ⟨_, rfl, by rw [Hp.out]; exact hv.mono (by simp; omega), Below.on b2 b3⟩

end Go.Proofs.Ytmdmiiikbdnioaa
/-
  The order of texts, as the specification asks it: l2bytes.
-/
namespace Go.Proofs.Ytmdmiiikbdnioaa
open Go.RowKit
set_option linter.unusedVariables false
set_option linter.unusedSimpArgs false

/-- The order of two texts. -/
def bytesC (xs ys : List Int) : Int := Lib.compareBytes (u8s xs) (u8s ys)

theorem cmp_swap : ∀ (a b : List UInt8), Lib.compareBytes b a = - Lib.compareBytes a b
  | [], [] => by simp [Lib.compareBytes]
  | [], _ :: _ => by simp [Lib.compareBytes]
  | _ :: _, [] => by simp [Lib.compareBytes]
  | x :: a, y :: b => by
    have ih := cmp_swap a b
    unfold Lib.compareBytes
    by_cases h1 : x < y
    · have h2 : ¬ y < x := fun h => absurd (UInt8.lt_trans h1 h) (UInt8.lt_irrefl _)
      have h3 : ¬ x = y := fun e => by subst e; exact absurd h1 (UInt8.lt_irrefl _)
      have h4 : ¬ y = x := fun e => h3 e.symm
      simp [h1, h2, h3, h4]
    · by_cases h2 : y < x
      · have h3 : ¬ x = y := fun e => by subst e; exact absurd h2 (UInt8.lt_irrefl _)
        have h4 : ¬ y = x := fun e => h3 e.symm
        simp [h1, h2, h3, h4]
      · have h3 : x = y := UInt8.le_antisymm (UInt8.not_lt.1 h2) (UInt8.not_lt.1 h1)
        subst h3
        simp [h1, ih]

theorem less_ab (xs ys : List Int) : Op.bytesLess (strOf xs).toList (strOf ys).toList = decide (bytesC xs ys < 0) := by rw [strOf_list, strOf_list, less_cmp]; rfl
theorem less_ba (xs ys : List Int) : Op.bytesLess (strOf ys).toList (strOf xs).toList = decide (0 < bytesC xs ys) := by
  rw [strOf_list, strOf_list, less_cmp, cmp_swap]
  show decide (-(bytesC xs ys) < 0) = _
  by_cases h : 0 < bytesC xs ys
  · simp [h]
  · simp [h]
theorem cmp_zero : ∀ (a b : List UInt8), Lib.compareBytes a b = 0 ↔ a = b
  | [], [] => by simp [Lib.compareBytes]
  | [], _ :: _ => by simp [Lib.compareBytes]
  | _ :: _, [] => by simp [Lib.compareBytes]
  | x :: a, y :: b => by
    have ih := cmp_zero a b
    unfold Lib.compareBytes
    by_cases h1 : x < y
    · have h3 : ¬ x = y := fun e => by subst e; exact absurd h1 (UInt8.lt_irrefl _)
      simp [h1, h3]
    · by_cases h2 : y < x
      · have h3 : ¬ x = y := fun e => by subst e; exact absurd h2 (UInt8.lt_irrefl _)
        simp [h1, h2, h3]
      · have h3 : x = y := UInt8.le_antisymm (UInt8.not_lt.1 h2) (UInt8.not_lt.1 h1)
        subst h3
        simp [h1, ih]
theorem same_ab (xs ys : List Int) : ((strOf xs).toList == (strOf ys).toList) = decide (bytesC xs ys = 0) := by
  rw [strOf_list, strOf_list]
  have h := cmp_zero (u8s xs) (u8s ys)
  show _ = decide (Lib.compareBytes (u8s xs) (u8s ys) = 0)
  by_cases e : u8s xs = u8s ys
  · simp [e, h.2 e]
    exact (cmp_zero _ _).2 rfl
  · have : ¬ Lib.compareBytes (u8s xs) (u8s ys) = 0 := fun k => e (h.1 k)
    simp [e, this]
theorem bytesC_cases (xs ys : List Int) : bytesC xs ys = -1 ∨ bytesC xs ys = 0 ∨ bytesC xs ys = 1 := by
  have := cmp_range (u8s xs) (u8s ys)
  have e : bytesC xs ys = Lib.compareBytes (u8s xs) (u8s ys) := rfl
  omega

end Go.Proofs.Ytmdmiiikbdnioaa
/-
  sort.Slice as the program's fields calls it, walked by the shelf's contract: what it leaves is a permutation, ascending by the keys.
-/
namespace Go.Proofs.Ytmdmiiikbdnioaa
open Go.Shelf Go.RowKit Go.Lib Go.Sort
set_option linter.unusedVariables false
set_option linter.unusedSimpArgs false
set_option maxRecDepth 100000

theorem infoFT : (Try.prog.info? 79).isSome = true := by kernel_rfl
theorem infoFE : (Try.prog.info? 82).isSome = true := by kernel_rfl

theorem sort_fields (blk off c Bs : Nat) (d : Array (List UInt8 × (TypeId × Value))) (h2 : 2 ≤ d.size) (hsz : d.size < 4611686018427387904) (w : World) (hH : HoldsK encF 2 w blk off d) (hblk : blk < w.heap.size)
    (hBs : w.cell? ⟨Bs, 0, none⟩ = some (.slice (some ⟨blk, off, none⟩) d.size c)) (hB1 : Bs < w.heap.size) (hB2 : Bs ≠ blk) :
    Calls Try.prog 54 #[.iface 79 (.slice (some ⟨blk, off, none⟩) d.size c), .func (.func 55) #[] #[.pointer (some ⟨Bs, 0, none⟩)]] w fun e w' =>
      e = .returned (.tuple #[]) ∧ ∃ d' n os, PermIn 0 d.size d d' ∧ SortedIn ltF 0 d.size d' ∧ w' = grow (putRowK encF 2 (Sort.ahead w n) blk off d') os := by
  have hless : LessReadsK Try.prog 55 #[.pointer (some ⟨Bs, 0, none⟩)] encF 2 ltF blk off d.size w := by
    intro m os dk hs i j hi hj
    have e : sortWorldK encF 2 w blk off m dk os = putRowK encF 2 (grow (Sort.ahead w m) os) blk off dk := by
      unfold sortWorldK; rw [putRowK_grow _ _ (Sort.ahead w m) _ blk off _ hblk]
    have hHg : HoldsK encF 2 (grow (Sort.ahead w m) os) blk off d := holdsK_grow _ _ _ _ blk off d hblk (holdsK_ahead _ _ _ _ _ _ _ hH)
    refine fields_less blk off c Bs d.size _ (fun t => dk[t]!.1) ?_ (fun t ht => ?_) i j hi hj (by omega)
    · rw [e, cell?_putRowK_other _ _ _ blk off dk _ (by exact hB2), cell?_grow _ _ _ (by exact hB1)]; exact hBs
    · rw [e]; exact ((holdsK_putRowK _ _ _ blk off d dk hHg hs).cell (i := t) (c := 0) (by omega) (by omega)).1
  have hk9 : ∀ ie, Try.prog.info? 82 = some ie → Lib.swapperK d.size ie 25 = 9 := by
    intro ie hie
    have a : ((Try.prog.info? 82).map fun i => (i.hasPointers, i.bytes)) = some (true, 32) := by kernel_rfl
    rw [hie] at a
    simp at a
    have c : (d.size == 0) = false := by rw [beq_eq_false_iff_ne]; omega
    have d' : (d.size == 1) = false := by rw [beq_eq_false_iff_ne]; omega
    simp [Lib.swapperK, a.1, a.2, c, d']
  obtain ⟨iT, hiT⟩ := Option.isSome_iff_exists.1 infoFT
  obtain ⟨iE, hiE⟩ := Option.isSome_iff_exists.1 infoFE
  have hdT : iT.desc = .slice 82 := by
    have a : ((Try.prog.info? 79).map fun i => i.desc) = some (.slice 82) := by kernel_rfl
    rw [hiT] at a
    simpa using a
  have hsE : iE.size = 2 := by
    have a : ((Try.prog.info? 82).map fun i => i.size) = some 2 := by kernel_rfl
    rw [hiE] at a
    simpa using a
  exact Any.sort_Slice_cells_sorted Try.laysGg6 79 82 iT iE hiT hdT (by kernel_rfl) hiE 25 (fun _ => by kernel_rfl) encF 2 (fun _ => rfl) hsE (fun _ => by kernel_rfl)
    (fun x v hv => by simp [encF] at hv; rcases hv with rfl | rfl <;> rfl) ltF swo_ltF 55 _
    (enters_of Try.func55 (by kernel_rfl) rfl) blk off c d h2 hsz 74 (by rw [hk9 _ hiE]; kernel_rfl) false
    (fun args W => run_callFunc_extern Try.func74 (by kernel_rfl) (by kernel_rfl) (by kernel_rfl) (e := Extern.ReflectliteSwapper.swap false) (by kernel_rfl) args W) w hless hH hblk

theorem swap_none (ie : TypeInfo) : Lib.swapperK 0 ie 25 = 1 := rfl
theorem swap_one (ie : TypeInfo) : Lib.swapperK 1 ie 25 = 2 := rfl
/-- .. at no field or one: nothing that lay turns. -/
theorem sort_tiny (p : Option Addr) (n c Bs : Nat) (h1 : n ≤ 1) (w : World) :
    Calls Try.prog 54 #[.iface 79 (.slice p n c), .func (.func 55) #[] #[.pointer (some ⟨Bs, 0, none⟩)]] w fun e w' => e = .returned (.tuple #[]) ∧ ∃ os, w' = grow w os := by
  obtain ⟨iT, hiT⟩ := Option.isSome_iff_exists.1 infoFT
  obtain ⟨iE, hiE⟩ := Option.isSome_iff_exists.1 infoFE
  have hdT : iT.desc = .slice 82 := by
    have a : ((Try.prog.info? 79).map fun i => i.desc) = some (.slice 82) := by kernel_rfl
    rw [hiT] at a
    simpa using a
  have h01 : n = 0 ∨ n = 1 := by omega
  rcases h01 with rfl | rfl
  · exact Any.sort_Slice_tiny Try.laysGg6 79 82 iT iE hiT hdT (by kernel_rfl) hiE 25 (fun _ => by kernel_rfl) p 0 c h1 66 (by rw [swap_none]; kernel_rfl) _ _ _ w
  · exact Any.sort_Slice_tiny Try.laysGg6 79 82 iT iE hiT hdT (by kernel_rfl) hiE 25 (fun _ => by kernel_rfl) p 1 c h1 67 (by rw [swap_one]; kernel_rfl) _ _ _ w
end Go.Proofs.Ytmdmiiikbdnioaa
/-
  What a call owns: a text, a list of texts, a value, each with the list of the blocks in which it lies, no block twice.
-/
namespace Go.Proofs.Ytmdmiiikbdnioaa
open Go.RowKit
set_option linter.unusedVariables false

/-- A text of the call's own, in the blocks B. -/
def TOwn (w : World) (v : Value) (xs : List Int) (B : List Nat) : Prop :=
  BtsF w v xs ∧ ((v = .slice none 0 0 ∧ B = []) ∨ ∃ g cap, v = .slice (some ⟨g, 0, none⟩) xs.length cap ∧ B = [g])

/-- A list of texts of the call's own, in the blocks B. -/
def KOwn (w : World) (v : Value) (ks : List (List Int)) (B : List Nat) : Prop :=
  (v = .slice none 0 0 ∧ ks = [] ∧ B = []) ∨
  ∃ (g cap : Nat) (cur : Array Value) (Bs : List (List Nat)), v = .slice (some ⟨g, 0, none⟩) ks.length cap ∧ w.heap[g]? = some (.cells cur 22 (0, 0)) ∧ ks.length ≤ cap ∧ cap ≤ maxLen ∧ cur.size = cap ∧ Bs.length = ks.length ∧
    (∀ i, i < ks.length → ∃ u, cur[i]? = some u ∧ TOwn w u (ks.getD i []) (Bs.getD i [])) ∧ B = g :: Bs.flatten ∧ B.Nodup

theorem TOwn.agree {w w' : World} {v : Value} {xs : List Int} {B : List Nat} (h : TOwn w v xs B) (ha : Agree (fun b => b ∈ B) w w') : TOwn w' v xs B := by
  refine ⟨?_, h.2⟩
  rcases h.2 with ⟨rfl, rfl⟩ | ⟨g, cap, rfl, rfl⟩
  · refine ⟨h.1.1, h.1.2.1, ?_⟩
    rcases h.1.2.2 with h0 | ⟨g, cap, cur, fr, h1, _⟩
    · exact .inl h0
    · simp at h1
  · refine ⟨h.1.1, h.1.2.1, ?_⟩
    rcases h.1.2.2 with ⟨h0, _⟩ | ⟨g', cap', cur, fr, h1, h3, h4⟩
    · simp at h0
    · simp only [Value.slice.injEq, Option.some.injEq, Addr.mk.injEq, and_true, true_and] at h1
      obtain ⟨rfl, rfl⟩ := h1
      exact .inr ⟨g, cap, cur, fr, rfl, (ha g (by simp)).trans h3, h4⟩

theorem TOwn.lt {w : World} {v : Value} {xs : List Int} {B : List Nat} (h : TOwn w v xs B) : ∀ b ∈ B, b < w.heap.size := by
  intro b hb
  rcases h.2 with ⟨rfl, rfl⟩ | ⟨g, cap, rfl, rfl⟩
  · simp at hb
  · simp at hb
    subst hb
    exact h.1.2.lt b rfl

theorem flatten_mem_getD {Bs : List (List Nat)} {i : Nat} (hi : i < Bs.length) {b : Nat} (hb : b ∈ Bs.getD i []) : b ∈ Bs.flatten := by
  rw [List.mem_flatten]
  refine ⟨Bs[i], List.getElem_mem hi, ?_⟩
  simpa [List.getD_eq_getElem?_getD, hi] using hb

theorem KOwn.agree {w w' : World} {v : Value} {ks : List (List Int)} {B : List Nat} (h : KOwn w v ks B) (ha : Agree (fun b => b ∈ B) w w') : KOwn w' v ks B := by
  rcases h with h0 | ⟨g, cap, cur, Bs, h1, h2, h3, h4, h5, h6, h7, rfl, h9⟩
  · exact .inl h0
  · refine .inr ⟨g, cap, cur, Bs, h1, (ha g (by simp)).trans h2, h3, h4, h5, h6, fun i hi => ?_, rfl, h9⟩
    obtain ⟨u, hu, ht⟩ := h7 i hi
    exact ⟨u, hu, ht.agree fun b hb => ha b (List.mem_cons_of_mem _ (flatten_mem_getD (by omega) hb))⟩

/-- What is owned can be read. -/
theorem TOwn.seg {w : World} {v : Value} {xs : List Int} {B : List Nat} (h : TOwn w v xs B) : TSeg (fun b => b ∈ B) w v xs := by
  obtain ⟨a, cap, h1, h2, h3, h4, h5, h6⟩ := h.1.shape
  refine ⟨a, cap, h1, h2, h3, h4, h6, fun x hx he => ?_⟩
  rcases h.2 with ⟨e, rfl⟩ | ⟨g, cp, e, rfl⟩
  · rw [e] at h1; simp at h1; rw [← h1.1] at hx; simp at hx
  · rw [e] at h1; simp at h1; rw [← h1.1] at hx; simp at hx; simp [← hx]

theorem TSeg.mono {R R' : Nat → Prop} {w : World} {v : Value} {xs : List Int} (h : TSeg R w v xs) (hr : ∀ b, R b → R' b) : TSeg R' w v xs := by
  obtain ⟨a, cap, h1, h2, h3, h4, h5, h6⟩ := h
  exact ⟨a, cap, h1, h2, h3, h4, h5, fun x hx he => hr _ (h6 x hx he)⟩

theorem KOwn.seg {w : World} {v : Value} {ks : List (List Int)} {B : List Nat} (h : KOwn w v ks B) : KSeg (fun b => b ∈ B) w v ks := by
  rcases h with ⟨rfl, rfl, rfl⟩ | ⟨g, cap, cur, Bs, rfl, h2, h3, h4, h5, h6, h7, rfl, h9⟩
  · exact ⟨none, 0, rfl, Nat.le_refl _, Nat.zero_le _, fun _ => rfl, .inl rfl⟩
  · refine ⟨some ⟨g, 0, none⟩, cap, rfl, h3, h4, by simp, .inr ⟨g, 0, rfl, by simp, fun i hi => ?_⟩⟩
    obtain ⟨u, hu, ht⟩ := h7 i hi
    refine ⟨u, ?_, ht.seg.mono fun b hb => List.mem_cons_of_mem _ (flatten_mem_getD (by omega) hb)⟩
    rw [Nat.zero_add, cell_of_row w g i cur 22 (0, 0) h2]
    exact hu

/-- A row of the call's own that was just made. -/
theorem tOwn_new {w : World} {base g : Nat} {xs : List Int} (h : Bts w base (.slice (some ⟨g, 0, none⟩) xs.length xs.length) xs) : TOwn w (.slice (some ⟨g, 0, none⟩) xs.length xs.length) xs [g] :=
  ⟨h.free, .inr ⟨g, _, rfl, rfl⟩⟩

theorem infoT : (Try.prog.info? 22).map (fun i => (i.zero, i.size, i.bytes)) = some (some (.slice none 0 0), 1, 24) := by kernel_rfl

/-- After k rounds of toByteSS. -/
def KPart (w : World) (g n : Nat) (ks : List (List Int)) (k : Nat) (N : Nat) : Prop :=
  ∃ (cur : Array Value) (Bs : List (List Nat)), w.heap[g]? = some (.cells cur 22 (0, 0)) ∧ cur.size = n ∧ Bs.length = k ∧
    (∀ i, i < k → ∃ u, cur[i]? = some u ∧ TOwn w u (ks.getD i []) (Bs.getD i [])) ∧ (∀ b ∈ Bs.flatten, N ≤ b ∧ b < w.heap.size) ∧ Bs.flatten.Nodup

theorem kPart_next {w w1 : World} {g n : Nat} {ks : List (List Int)} {k N : Nat} (h : KPart w g n ks k N) (hgN : g < N) (hk : k < n) (b1 : Below w.heap.size w w1) (hN : N ≤ w.heap.size) (u : Value) (gb : Nat) (hu : TOwn w1 u (ks.getD k []) [gb]) (hgb : w.heap.size ≤ gb) :
    KPart (w1.setCell ⟨g, k, none⟩ u) g n ks (k + 1) N ∧ w1.grownBy (w1.setCell ⟨g, k, none⟩ u) (some g) := by
  obtain ⟨cur, Bs, h1, h2, h3, h4, h5, h6⟩ := h
  have hgw : g < w.heap.size := (Array.getElem?_eq_some_iff.1 h1).1
  have h1' : w1.heap[g]? = some (.cells cur 22 (0, 0)) := (b1.block g hgw).trans h1
  have hgr : w1.grownBy (w1.setCell ⟨g, k, none⟩ u) (some g) := ⟨rfl, rfl, rfl, by simp [World.setCell], fun j _ hj => Below.heap_setCell w1 ⟨g, k, none⟩ u j (fun e => hj (by simp [e]))⟩
  have hsz : (w1.setCell ⟨g, k, none⟩ u).heap.size = w1.heap.size := by simp [World.setCell]
  have hgbl := hu.lt gb (by simp)
  refine ⟨⟨cur.setIfInBounds k u, Bs ++ [[gb]], heap_setCell_same w1 g k cur 22 u h1', by simpa using h2, by simp [h3], fun i hi => ?_, ?_, ?_⟩, hgr⟩
  · by_cases hik : i = k
    · subst hik
      refine ⟨u, by simp [h2, hk], ?_⟩
      have e : (Bs ++ [[gb]]).getD i [] = [gb] := by simp [List.getD_eq_getElem?_getD, ← h3]
      rw [e]
      exact hu.agree fun b hb => Below.heap_setCell w1 ⟨g, i, none⟩ u b (by simp at hb; show b ≠ g; omega)
    · have hi' : i < k := by omega
      obtain ⟨u', hu', ht'⟩ := h4 i hi'
      have e : (Bs ++ [[gb]]).getD i [] = Bs.getD i [] := by
        simp only [List.getD_eq_getElem?_getD]
        rw [List.getElem?_append_left (by omega)]
      refine ⟨u', by rw [Array.getElem?_setIfInBounds_ne (by omega)]; exact hu', ?_⟩
      rw [e]
      refine (ht'.agree fun b hb => b1.block b ?_).agree fun b hb => Below.heap_setCell w1 ⟨g, k, none⟩ u b ?_
      · exact ht'.lt b hb
      · have := h5 b (flatten_mem_getD (by omega) hb)
        show b ≠ g
        omega
  · intro b hb
    rw [List.flatten_append, List.mem_append] at hb
    rw [hsz]
    rcases hb with hb | hb
    · have := h5 b hb
      have := b1.size
      omega
    · simp at hb
      omega
  · rw [List.flatten_append, List.nodup_append]
    refine ⟨h6, by simp, fun b hb c hc => ?_⟩
    simp at hc
    have := h5 b hb
    omega

end Go.Proofs.Ytmdmiiikbdnioaa
/-
  PutText of the program and of the specification: a text with its length ahead, behind a copy of what was there.
-/
namespace Go.Proofs.Ytmdmiiikbdnioaa
open Go.RowKit
set_option linter.unusedVariables false

/-- What PutText answers. -/
def putText (xs ts : List Int) : List Int := if 20 < ts.length then xs else putNum xs ts.length ++ ts
theorem putText_no (xs ts : List Int) (h : 20 < ts.length) : putText xs ts = xs := by simp [putText, h]
theorem putText_yes (xs ts : List Int) (h : ¬ 20 < ts.length) : putText xs ts = putNum xs ts.length ++ ts := by simp [putText, h]
theorem putText_len (xs ts : List Int) : (putText xs ts).length ≤ xs.length + 25 := by
  unfold putText
  split
  · omega
  · have := putNum_len xs ts.length
    simp; omega

set_option maxHeartbeats 800000 in
theorem spec_PutText_any (a b : Option Addr) (c1 c2 : Nat) (xs ts : List Int) (w : World) (ha : Seg w a xs) (hb : Seg w b ts) (ka : a = none → c1 = 0) (kb : b = none → c2 = 0) (hl : xs.length ≤ 2097152) (hl2 : ts.length ≤ 2097152) :
    Calls Try.prog 31 #[.slice a xs.length c1, .slice b ts.length c2] w fun e w' => ∃ v, e = .returned v ∧ Bts w' w.heap.size v (putText xs ts) ∧ Below w.heap.size w w' := by
  by_cases h : 20 < ts.length
  · have Hp : Hid (putText xs ts = xs) := putText_no xs ts h
    have h' : (20 : Int) < (ts.length : Int) := by omega
    have hE := bts_empty w
    have hB1 : Below w.heap.size w (w.alloc (.cells #[] 5)) := (Below.refl _ _).alloc (Nat.le_refl _) _
    have hS1 := ha.grow hB1
    generalize hn : xs.length = n at *
    have Hn : Hid (n = xs.length) := hn.symm
    clear hn
    go_enter Try.func31, Try.ntmps31
    go_wp2_with (at_builtin; refine wpList_append_seg rfl (.tmp 8) (.tmp 9) rfl w.heap.size _ [] xs rfl hE a n c1 Hn.out rfl hS1 ka (by simp; have := Hn.out; omega) (by simp) ?_; intro v2 w2 hv2 hg2)
    go_ret
    exact ⟨_, rfl, by rw [Hp.out]; exact hv2, hB1.grown hg2 (by simp) hE.own⟩
  · have Hp : Hid (putText xs ts = putNum xs ts.length ++ ts) := putText_yes xs ts h
    have h' : ¬ (20 : Int) < (ts.length : Int) := by omega
    have hpl := putNum_len xs ts.length
    generalize hn : ts.length = n at *
    have Hn : Hid (n = ts.length) := hn.symm
    clear hn
    go_enter Try.func31, Try.ntmps31
    go_wp2_with fail
    refine (spec_PutNum_any _ _ xs n _ ha ka (by omega)).mono ?_
    rintro e w1 ⟨v1, rfl, hv1, b1⟩
    have hS := hb.grow b1
    have z1 := b1.size
    go_wp2_with (at_builtin; refine wpList_append_seg rfl (.tmp 14) (.tmp 15) rfl w.heap.size _ (putNum xs n) ts rfl hv1 b n c2 Hn.out rfl hS kb (by have := Hn.out; omega) z1 ?_; intro v2 w2 hv2 hg2)
    go_ret
    exact ⟨_, rfl, by rw [Hp.out]; exact hv2, b1.grown hg2 z1 hv1.own⟩

set_option maxHeartbeats 800000 in
theorem impl_PutText_any (a b : Option Addr) (c1 c2 : Nat) (xs ts : List Int) (w : World) (ha : Seg w a xs) (hb : Seg w b ts) (ka : a = none → c1 = 0) (kb : b = none → c2 = 0) (hl : xs.length ≤ 2097152) (hl2 : ts.length ≤ 2097152) :
    Calls Try.prog 39 #[.slice a xs.length c1, .slice b ts.length c2] w fun e w' => ∃ v, e = .returned v ∧ Bts w' w.heap.size v (putText xs ts) ∧ Below w.heap.size w w' := by
  by_cases h : 20 < ts.length
  · have Hp : Hid (putText xs ts = xs) := putText_no xs ts h
    have h' : (20 : Int) < (ts.length : Int) := by omega
    go_enter Try.func39, Try.ntmps39
    go_wp2_with fail
    refine (joined_any _ _ _ _ xs [] _ ha ⟨by simp, .inl rfl⟩ ka (by simp) (by omega) (by simp)).mono ?_
    rintro e w1 ⟨v1, rfl, hv1, b1⟩
    simp only [List.append_nil] at hv1
    go_wp2
    go_ret
    exact ⟨_, rfl, by rw [Hp.out]; exact hv1, b1⟩
  · have Hp : Hid (putText xs ts = putNum xs ts.length ++ ts) := putText_yes xs ts h
    have h' : ¬ (20 : Int) < (ts.length : Int) := by omega
    have hpl := putNum_len xs ts.length
    go_enter Try.func39, Try.ntmps39
    go_wp2_with fail
    refine (impl_PutNum_any _ _ xs ts.length _ ha ka (by omega)).mono ?_
    rintro e w1 ⟨v1, rfl, hv1, b1⟩
    obtain ⟨a1, d1, rfl, _, _, _, _, k1⟩ := hv1.shape
    have hS := hb.grow b1
    go_wp2_with fail
    refine (joined_any _ _ _ _ (putNum xs ts.length) ts _ hv1.seg hS k1 kb (by omega) (by omega)).mono ?_
    rintro e w2 ⟨v2, rfl, hv2, b2⟩
    go_wp2
    go_ret
    exact ⟨_, rfl, by rw [Hp.out]; exact hv2.mono b1.size, Below.on b1 b2⟩

end Go.Proofs.Ytmdmiiikbdnioaa
/-
  The order of numbers and of texts, as the specification and as the program ask it: l2num; cmp.Compare at int.
-/
namespace Go.Proofs.Ytmdmiiikbdnioaa
open Go.RowKit
set_option linter.unusedVariables false
set_option linter.unusedSimpArgs false

/-- The order of two numbers. -/
def numC (a b : Int) : Int := if a < b then -1 else if b < a then 1 else 0
theorem numC_lt {a b : Int} (h : a < b) : numC a b = -1 := by simp [numC, h]
theorem numC_gt {a b : Int} (h : b < a) : numC a b = 1 := by
  have : ¬ a < b := by omega
  simp [numC, h, this]
theorem numC_eq (a : Int) : numC a a = 0 := by simp [numC]

end Go.Proofs.Ytmdmiiikbdnioaa
/-
  toByteSS of the laws: it makes a list of texts of its own that holds what its argument holds.
-/
namespace Go.Proofs.Ytmdmiiikbdnioaa
open Go.RowKit
set_option linter.unusedVariables false

end Go.Proofs.Ytmdmiiikbdnioaa
/-
  The order of values, as the specification has it: 'cmpV'; readings at one depth. Plain mathematics.
-/
namespace Go.Proofs.Ytmdmiiikbdnioaa
open Go.RowKit
set_option linter.unusedVariables false
set_option linter.unusedSimpArgs false

/-- The order of two lists of parts, with their keys where they are those of maps. -/
def cmpLs {α : Type} (m : Bool) (f : α → α → Int) : List (List Int) → List (List Int) → List α → List α → Int
  | _, _, [], [] => 0
  | _, _, [], _ :: _ => -1
  | _, _, _ :: _, [] => 1
  | aK, bK, a :: aL, b :: bL => if m = true ∧ bytesC (aK.headD []) (bK.headD []) ≠ 0 then bytesC (aK.headD []) (bK.headD []) else if f a b ≠ 0 then f a b else cmpLs m f aK.tail bK.tail aL bL

/-- The order of two values. -/
def cmpV : (d : Nat) → Vl d → Vl d → Int
  | 0, _, _ => 0
  | d + 1, a, b => if a.1 ≠ b.1 then numC a.1 b.1 else if a.1 = 3 then bytesC a.2.2.1 b.2.2.1 else if a.2.1 ≠ b.2.1 then numC a.2.1 b.2.1 else cmpLs (decide (a.1 = 5)) (cmpV d) a.2.2.2.1 b.2.2.2.1 a.2.2.2.2 b.2.2.2.2

/-- From the k-th parts on. -/
def cmpK {d : Nat} (m : Bool) (aK bK : List (List Int)) (aL bL : List (Vl d)) (k : Nat) : Int := cmpLs m (cmpV d) (aK.drop k) (bK.drop k) (aL.drop k) (bL.drop k)

theorem headD_drop (l : List (List Int)) (k : Nat) : (l.drop k).headD [] = l.getD k [] := by
  induction l generalizing k with
  | nil => simp
  | cons a l ih =>
    cases k with
    | zero => rfl
    | succ k => simp

theorem tail_drop (l : List (List Int)) (k : Nat) : (l.drop k).tail = l.drop (k + 1) := by rw [List.tail_drop]

theorem cmpK_step {d : Nat} {m : Bool} {aK bK : List (List Int)} {aL bL : List (Vl d)} {k : Nat} (ha : k < aL.length) (hb : k < bL.length) :
    cmpK m aK bK aL bL k = if m = true ∧ bytesC (aK.getD k []) (bK.getD k []) ≠ 0 then bytesC (aK.getD k []) (bK.getD k []) else if cmpV d aL[k] bL[k] ≠ 0 then cmpV d aL[k] bL[k] else cmpK m aK bK aL bL (k + 1) := by
  unfold cmpK
  rw [List.drop_eq_getElem_cons ha, List.drop_eq_getElem_cons hb]
  simp only [cmpLs, headD_drop, tail_drop]
theorem cmpK_end1 {d : Nat} {m : Bool} {aK bK : List (List Int)} {aL bL : List (Vl d)} {k : Nat} (ha : k < aL.length) (hb : ¬ k < bL.length) : cmpK m aK bK aL bL k = 1 := by
  unfold cmpK
  rw [List.drop_eq_getElem_cons ha, List.drop_eq_nil_of_le (by omega : bL.length ≤ k)]
  rfl
theorem cmpK_end2 {d : Nat} {m : Bool} {aK bK : List (List Int)} {aL bL : List (Vl d)} {k : Nat} (ha : ¬ k < aL.length) (hb : k < bL.length) : cmpK m aK bK aL bL k = -1 := by
  unfold cmpK
  rw [List.drop_eq_getElem_cons hb, List.drop_eq_nil_of_le (by omega : aL.length ≤ k)]
  rfl
theorem cmpK_end3 {d : Nat} {m : Bool} {aK bK : List (List Int)} {aL bL : List (Vl d)} {k : Nat} (ha : ¬ k < aL.length) (hb : ¬ k < bL.length) : cmpK m aK bK aL bL k = 0 := by
  unfold cmpK
  rw [List.drop_eq_nil_of_le (by omega : aL.length ≤ k), List.drop_eq_nil_of_le (by omega : bL.length ≤ k)]
  rfl
theorem cmpK_zero {d : Nat} (m : Bool) (aK bK : List (List Int)) (aL bL : List (Vl d)) : cmpK m aK bK aL bL 0 = cmpLs m (cmpV d) aK bK aL bL := by simp [cmpK]

theorem cmpV_kind {d : Nat} {a b : Vl (d + 1)} (h : a.1 ≠ b.1) : cmpV (d + 1) a b = numC a.1 b.1 := by
  show (if a.1 ≠ b.1 then _ else _) = _
  rw [if_pos h]
theorem cmpV_text {d : Nat} {a b : Vl (d + 1)} (h : a.1 = b.1) (h3 : a.1 = 3) : cmpV (d + 1) a b = bytesC a.2.2.1 b.2.2.1 := by
  show (if a.1 ≠ b.1 then _ else if a.1 = 3 then _ else _) = _
  rw [if_neg (by simpa using h), if_pos h3]
theorem cmpV_num {d : Nat} {a b : Vl (d + 1)} (h : a.1 = b.1) (h3 : a.1 ≠ 3) (hn : a.2.1 ≠ b.2.1) : cmpV (d + 1) a b = numC a.2.1 b.2.1 := by
  show (if a.1 ≠ b.1 then _ else if a.1 = 3 then _ else if a.2.1 ≠ b.2.1 then _ else _) = _
  rw [if_neg (by simpa using h), if_neg h3, if_pos hn]
theorem cmpV_parts {d : Nat} {a b : Vl (d + 1)} (h : a.1 = b.1) (h3 : a.1 ≠ 3) (hn : a.2.1 = b.2.1) : cmpV (d + 1) a b = cmpK (decide (a.1 = 5)) a.2.2.2.1 b.2.2.2.1 a.2.2.2.2 b.2.2.2.2 0 := by
  rw [cmpK_zero]
  show (if a.1 ≠ b.1 then _ else if a.1 = 3 then _ else if a.2.1 ≠ b.2.1 then _ else _) = _
  rw [if_neg (by simpa using h), if_neg h3, if_neg (by simpa using hn)]

/-- What is read at a depth is read at the next one. -/
theorem VSeg.up {R : Nat → Prop} {w : World} (d : Nat) : ∀ {c : Value × Value × Value × Value × Value} {v : Vl d}, VSeg R w d c v → ∃ v' : Vl (d + 1), VSeg R w (d + 1) c v' := by
  induction d with
  | zero => intro c v h; exact h.elim
  | succ d ih =>
    intro c v h
    obtain ⟨h0, h1, h2, h3, a, cap, g1, g2, g3, g4, g5⟩ := h
    have hq : ∀ i, i < v.2.2.2.2.length → ∃ x : Vl (d + 1), ∀ b off, a = some ⟨b, off, none⟩ → (∀ i (h : i < v.2.2.2.2.length), ∃ e, Five w b (off + i * 5) e ∧ VSeg R w d e (v.2.2.2.2[i])) → ∃ e, Five w b (off + i * 5) e ∧ VSeg R w (d + 1) e x := by
      intro i hi
      rcases g5 with e | ⟨b, off, hb, hR, hc⟩
      · rw [e] at hi; simp at hi
      · obtain ⟨e, he, hv⟩ := hc i hi
        obtain ⟨x, hx⟩ := ih hv
        refine ⟨x, fun b' off' hb' _ => ?_⟩
        rw [hb] at hb'
        simp at hb'
        obtain ⟨rfl, rfl⟩ := hb'
        exact ⟨e, he, hx⟩
    obtain ⟨l, hl, hls⟩ := list_of v.2.2.2.2.length hq
    refine ⟨(v.1, v.2.1, v.2.2.1, v.2.2.2.1, l), h0, h1, h2, h3, a, cap, by simpa [hl] using g1, by simpa [hl] using g2, g3, g4, ?_⟩
    rcases g5 with e | ⟨b, off, hb, hR, hc⟩
    · refine .inl ?_
      show l = []
      exact List.eq_nil_of_length_eq_zero (by rw [hl, e]; rfl)
    · refine .inr ⟨b, off, hb, hR, fun i hi => ?_⟩
      exact hls i hi b off hb hc

theorem VSeg.upto {R : Nat → Prop} {w : World} (d k : Nat) {c : Value × Value × Value × Value × Value} {v : Vl d} (h : VSeg R w d c v) : ∃ v' : Vl (d + k), VSeg R w (d + k) c v' := by
  induction k with
  | zero => exact ⟨v, h⟩
  | succ k ih =>
    obtain ⟨v', h'⟩ := ih
    exact VSeg.up (d + k) h'
end Go.Proofs.Ytmdmiiikbdnioaa
