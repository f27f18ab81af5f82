/-
  Texts that a law leans on, one behind the other; no statement is proved here.
-/
import Derived.Test.YtdhlmcgbgdljmaaGreatDoorPk5
import Derived.Lib.AppendStr
import Derived.Test.YtdhlmcgbgdljmaaGreatDoorPk10
import Derived.Laws.IdiomStrings
import Derived.Test.YtdhlmcgbgdljmaaGreatDoorPk0
import Derived.Test.YtdhlmcgbgdljmaaGreatDoorPk6
import Derived.Test.YtdhlmcgbgdljmaaGreatDoorPk2
/-
  A string of bytes as cells; 'append(out, s...)' of a string.
-/
namespace Go.Proofs.YtdhlmcgbgdljmaaGreatDoor
open Go.RowKit
set_option linter.unusedVariables false

theorem strCells_of {xs : List Int} (h : ∀ x ∈ xs, Byt x) : Lib.strCells (strOf xs) = cellsOf xs := by
  show (u8s xs).map (fun b => Value.int .u8 (b.toNat : Int)) = _
  unfold u8s cellsOf
  rw [List.map_map]
  refine List.map_congr_left fun x hx => ?_
  have hb := h x hx
  unfold Byt at hb
  simp
  omega

theorem size_strOf (xs : List Int) : (strOf xs).size = xs.length := by simp [strOf, ByteArray.size]

/-- 'append(out, s...)', out nil or the call's own, s a string: what is owned grows by the bytes of s. -/
theorem wpList_append_text {w : World} {ops : Array Oper} {rest : List Oper} {o : Oper} {a : Act} {Q : Exit → Act → World → Prop} (hgd : o.guard = none) (s x : Operand) (t : TypeId)
    (ho : o.op = .call { callee := .builtin .append, args := #[s, x], argTypes := #[23, t] }) (ht : Tryz.prog.underlying t = some .string)
    (base : Nat) (v : Value) (xs ys : List Int) (hs : a.eval s = v) (hB : Bts w base v xs) (sx : ByteArray) (hsx : sx = strOf ys) (hy : ∀ y ∈ ys, Byt y) (hx : a.eval x = .string sx)
    (hlen : xs.length + ys.length ≤ 1099511627776) (hbase : base ≤ w.heap.size)
    (h : ∀ v' w', Bts w' base v' (xs ++ ys) → w.grownBy w' v.ownBlock → wpList Tryz.prog ops Q rest (a.put o.dst v') w') : wpList Tryz.prog ops Q (o :: rest) a w := by
  obtain ⟨i0, hi, hz0, hz1, hz2⟩ := info_parts info5
  subst hsx
  have hsz := size_strOf ys
  refine Lib.wpList_append_own_string w hgd s x 23 t ho base 5 i0 Tryz.underlying23 ht hi hz0 hz1 hz2 v xs.length (cellsOf xs) hs hB.2 (strOf ys) hx (by unfold maxLen; omega) (by omega) hbase ?_
  intro v' w' hown hg _
  refine h v' w' ⟨?_, ?_⟩ hg
  · intro z hz
    rcases List.mem_append.1 hz with h1 | h1
    · exact hB.1 z h1
    · exact hy z h1
  · rw [strCells_of hy, hsz, ← cellsOf_append] at hown
    rw [List.length_append]
    exact hown

end Go.Proofs.YtdhlmcgbgdljmaaGreatDoor
/-
  '[]byte(s)': a text of the call's own.
-/
namespace Go.Proofs.YtdhlmcgbgdljmaaGreatDoor
open Go.RowKit
set_option linter.unusedVariables false
set_option linter.unusedSimpArgs false

/-- '[]byte(s)': a text of the call's own. -/
theorem conv_back (xs : List Int) (hx : ∀ x ∈ xs, Byt x) (hl : xs.length ≤ 1048576) (w : World) : ∃ cap wB, (convert 9 23 (.string (strOf xs))).run Tryz.prog w = .ok (.slice (some ⟨w.heap.size, 0, none⟩) xs.length cap) wB ∧
    TOwn wB (.slice (some ⟨w.heap.size, 0, none⟩) xs.length cap) xs [w.heap.size] ∧ Below w.heap.size w wB ∧ wB.heap.size = w.heap.size + 1 := by
  have hsz := size_strOf xs
  have hsc := strCells_of hx
  have hrun := run_bytes_of_string (P := Tryz.prog) w 9 23 5 (strOf xs) Tryz.underlying9 Tryz.underlying23 Tryz.underlying5
  rw [hsz] at hrun
  have hge := grownCap_ge w xs.length 0 5
  have hle := grownCap_le_maxLen w xs.length 0 5 (by unfold maxLen; omega)
  generalize grownCap w xs.length 0 5 = cap at hrun hge hle
  have hrs : (bytesRow (strOf xs) cap).size = cap := by
    have h1 : (strOf xs).data.size = xs.length := hsz
    simp [bytesRow, h1, hsz]
    omega
  have hrt : (bytesRow (strOf xs) cap).toList.take xs.length = cellsOf xs := by
    rw [← hsc]
    unfold bytesRow Lib.strCells
    rw [Array.toList_append, Array.toList_map, List.take_append_of_le_length (by simp; exact Nat.le_of_eq hsz.symm)]
    rw [List.take_of_length_le (by simp; exact Nat.le_of_eq hsz)]
  rw [hrs] at hrun
  refine ⟨cap, _, hrun, ⟨⟨hx, by simp [cellsOf], .inr ⟨w.heap.size, cap, _, _, rfl, heap_alloc_new w.drew _, .inr (Nat.le_refl _), hge, hle, hrs, hrt⟩⟩, .inr ⟨_, _, rfl, rfl⟩⟩, ((Below.refl _ w).drew).alloc (Nat.le_refl _) _, by simp⟩
end Go.Proofs.YtdhlmcgbgdljmaaGreatDoor
/-
  A text that is read: its bytes, and that nil has no room.
-/
namespace Go.Proofs.YtdhlmcgbgdljmaaGreatDoor
open Go.RowKit
set_option linter.unusedVariables false

theorem TSeg.out {R : Nat → Prop} {w : World} {a : Option Addr} {n c : Nat} {xs : List Int} (h : TSeg R w (.slice a n c) xs) : Seg w a xs ∧ (a = none → c = 0) := by
  obtain ⟨a', c', h1, h2, h3, h4, h5, _⟩ := h
  simp only [Value.slice.injEq] at h1
  obtain ⟨rfl, _, rfl⟩ := h1
  exact ⟨h2, h5⟩
end Go.Proofs.YtdhlmcgbgdljmaaGreatDoor
/-
  l2say of the specification: a value without parts.
-/
namespace Go.Proofs.YtdhlmcgbgdljmaaGreatDoor
open Go.RowKit
set_option linter.unusedVariables false
set_option linter.unusedSimpArgs false

/-- What l2say has left. -/
def SayEnd (xs : List Int) (w : World) (e : Ending) (w' : World) : Prop := ∃ a c, e = .returned (.slice a xs.length c) ∧ Seg w' a xs ∧ (a = none → c = 0) ∧ (∀ x, a = some x → w.heap.size ≤ x.block ∧ x.block < w'.heap.size) ∧ Below w.heap.size w w'

theorem sayEnd_of {w w1 w' : World} {u : Value} {xs : List Int} (hB : Bts w' w1.heap.size u xs) (hz : w.heap.size ≤ w1.heap.size) (hb : Below w.heap.size w w') : SayEnd xs w (.returned u) w' := by
  obtain ⟨a, c, rfl, hs, _, _, hx, k⟩ := hB.shape
  exact ⟨a, c, rfl, hs, k, fun x e => ⟨by have := (hx x e).1; omega, (hx x e).2.1⟩, hb⟩

theorem push_modify (a : Array Obj) (x : Obj) (f : Obj → Obj) : (a.push x).modify a.size f = a.push (f x) := by
  ext i h1 h2
  · simp
  · rw [Array.getElem_modify]
    split
    · rename_i h; subst h; simp
    · rename_i h
      have : i < a.size := by simp at h1; omega
      simp [Array.getElem_push, this]

theorem conv_same (cs : Array Value) (n : Nat) (hn : cs.size = n) (w : World) : (convert 23 23 (.slice (some ⟨w.heap.size, 0, none⟩) n n)).run Tryz.prog (w.alloc (.cells cs 5)) = .ok (.slice (some ⟨w.heap.size, 0, none⟩) n n) (w.alloc (.cells cs 5 (n, n + 1))) := by
  have hsh : (w.alloc (.cells cs 5)).shape? w.heap.size = some (5, n) := by
    unfold World.shape?
    rw [heap_alloc_new w (.cells cs 5)]
    rw [← hn]
  have hfr : (w.alloc (.cells cs 5)).freeze ⟨w.heap.size, n, none⟩ 1 = w.alloc (.cells cs 5 (n, n + 1)) := by
    unfold World.freeze
    rw [if_neg (by decide)]
    show ({ w.alloc (.cells cs 5) with heap := (w.heap.push (.cells cs 5)).modify w.heap.size _ } : World) = _
    rw [push_modify]
    rfl
  simp [convert, run_underlying Tryz.underlying23, run_underlying Tryz.underlying5, markStringish, hsh, hfr]

/-- The cells of a text that was written out, marked as such. -/
theorem seg_lit (w : World) (xs : List Int) (h : ∀ x ∈ xs, Byt x) (fr : Nat × Nat) : Seg (w.alloc (.cells (cellsOf xs).toArray 5 fr)) (some ⟨w.heap.size, 0, none⟩) xs := by
  refine ⟨h, .inr ⟨w.heap.size, 0, rfl, fun i hi => ?_⟩⟩
  rw [cell_of_row _ w.heap.size _ _ _ fr (heap_alloc_new w _)]
  simp [cellsOf, List.getD_eq_getElem?_getD, hi]


set_option maxHeartbeats 1600000 in
set_option maxRecDepth 100000 in
theorem l2say_null (vn : Int) (vs : List Int) (a2 : Option Addr) (p2 : Nat) (a3 : Option Addr) (l3 p3 : Nat) (a4 : Option Addr) (l4 p4 : Nat) (w : World) :
    Calls Tryz.prog 17 #[.agg #[.int .i64 0, .int .i64 vn, .slice a2 vs.length p2, .slice a3 l3 p3, .slice a4 l4 p4]] w (SayEnd ([110, 117, 108, 108]) w) := by
  have hbA : Hid (∀ o : Obj, Below w.heap.size w (w.alloc o)) := fun o => (Below.refl _ _).alloc (Nat.le_refl _) o
  have hbB : Hid (∀ o o' : Obj, Below w.heap.size w ((w.alloc o).alloc o')) := fun o o' => ((Below.refl _ _).alloc (Nat.le_refl _) o).alloc (by simp) o'
  have hcv : ∀ o : Obj, (convert 23 23 (.slice (some ⟨w.heap.size + 1, 0, none⟩) 4 4)).run Tryz.prog ((w.alloc o).alloc (.cells #[.int .u8 110, .int .u8 117, .int .u8 108, .int .u8 108] 5)) = .ok (.slice (some ⟨w.heap.size + 1, 0, none⟩) 4 4) ((w.alloc o).alloc (.cells #[.int .u8 110, .int .u8 117, .int .u8 108, .int .u8 108] 5 (4, 4 + 1))) := fun o => by
    have h := conv_same #[.int .u8 110, .int .u8 117, .int .u8 108, .int .u8 108] 4 rfl (w.alloc o)
    simp only [World.size_alloc] at h
    exact h
  have HB : Hid (∀ o : Obj, Seg ((w.alloc o).alloc (.cells #[.int .u8 110, .int .u8 117, .int .u8 108, .int .u8 108] 5 (4, 4 + 1))) (some ⟨w.heap.size + 1, 0, none⟩) [110, 117, 108, 108]) := fun o => by
    have h := seg_lit (w.alloc o) [110, 117, 108, 108] (by simp [Byt]) (4, 4 + 1)
    simp only [World.size_alloc] at h
    exact h
  go_enter Tryz.func17, Tryz.ntmps17
  go_wp2
  go_ret
  exact ⟨_, _, rfl, HB.out _, by simp, fun x e => by simp at e; subst e; simp, hbB.out _ _⟩

set_option maxHeartbeats 1600000 in
set_option maxRecDepth 100000 in
theorem l2say_unknown (vn : Int) (vs : List Int) (a2 : Option Addr) (p2 : Nat) (a3 : Option Addr) (l3 p3 : Nat) (a4 : Option Addr) (l4 p4 : Nat) (w : World) :
    Calls Tryz.prog 17 #[.agg #[.int .i64 6, .int .i64 vn, .slice a2 vs.length p2, .slice a3 l3 p3, .slice a4 l4 p4]] w (SayEnd ([63]) w) := by
  have hbA : Hid (∀ o : Obj, Below w.heap.size w (w.alloc o)) := fun o => (Below.refl _ _).alloc (Nat.le_refl _) o
  have hbB : Hid (∀ o o' : Obj, Below w.heap.size w ((w.alloc o).alloc o')) := fun o o' => ((Below.refl _ _).alloc (Nat.le_refl _) o).alloc (by simp) o'
  have hcv : ∀ o : Obj, (convert 23 23 (.slice (some ⟨w.heap.size + 1, 0, none⟩) 1 1)).run Tryz.prog ((w.alloc o).alloc (.cells #[.int .u8 63] 5)) = .ok (.slice (some ⟨w.heap.size + 1, 0, none⟩) 1 1) ((w.alloc o).alloc (.cells #[.int .u8 63] 5 (1, 1 + 1))) := fun o => by
    have h := conv_same #[.int .u8 63] 1 rfl (w.alloc o)
    simp only [World.size_alloc] at h
    exact h
  have HB : Hid (∀ o : Obj, Seg ((w.alloc o).alloc (.cells #[.int .u8 63] 5 (1, 1 + 1))) (some ⟨w.heap.size + 1, 0, none⟩) [63]) := fun o => by
    have h := seg_lit (w.alloc o) [63] (by simp [Byt]) (1, 1 + 1)
    simp only [World.size_alloc] at h
    exact h
  go_enter Tryz.func17, Tryz.ntmps17
  go_wp2
  go_ret
  exact ⟨_, _, rfl, HB.out _, by simp, fun x e => by simp at e; subst e; simp, hbB.out _ _⟩

set_option maxHeartbeats 1600000 in
set_option maxRecDepth 100000 in
theorem l2say_false (vn : Int) (vs : List Int) (a2 : Option Addr) (p2 : Nat) (a3 : Option Addr) (l3 p3 : Nat) (a4 : Option Addr) (l4 p4 : Nat) (w : World) :
    Calls Tryz.prog 17 #[.agg #[.int .i64 1, .int .i64 0, .slice a2 vs.length p2, .slice a3 l3 p3, .slice a4 l4 p4]] w (SayEnd ([102, 97, 108, 115, 101]) w) := by
  have hbA : Hid (∀ o : Obj, Below w.heap.size w (w.alloc o)) := fun o => (Below.refl _ _).alloc (Nat.le_refl _) o
  have hbB : Hid (∀ o o' : Obj, Below w.heap.size w ((w.alloc o).alloc o')) := fun o o' => ((Below.refl _ _).alloc (Nat.le_refl _) o).alloc (by simp) o'
  have hsx : strOf [102, 97, 108, 115, 101] = { data := #[102, 97, 108, 115, 101] } := by rfl
  obtain ⟨cap, wB, hconv, hT, hbb, hzB⟩ := conv_back [102, 97, 108, 115, 101] (by simp [Byt]) (by simp) ((w.alloc (.cells #[.int .i64 1, .int .i64 0, .slice a2 vs.length p2, .slice a3 l3 p3, .slice a4 l4 p4] 35)).alloc (.cells #[.string { data := #[102, 97, 108, 115, 101] }, .string { data := #[116, 114, 117, 101] }] 9))
  rw [hsx] at hconv
  have hS := hT.seg.out
  simp only [World.size_alloc] at hS hconv
  have HB := hide' (Below.on (hbB.out _ _) hbb)
  have HS := hide' hS
  have Hz := hide' hzB
  clear hT hbb hS hzB hsx
  go_enter Tryz.func17, Tryz.ntmps17
  go_wp2
  go_ret
  exact ⟨_, _, rfl, HS.out.1, by simp, fun x e => by have := Hz.out; simp at e this; subst e; simp; omega, HB.out⟩

set_option maxHeartbeats 1600000 in
set_option maxRecDepth 100000 in
theorem l2say_true (vn : Int) (vs : List Int) (a2 : Option Addr) (p2 : Nat) (a3 : Option Addr) (l3 p3 : Nat) (a4 : Option Addr) (l4 p4 : Nat) (w : World) :
    Calls Tryz.prog 17 #[.agg #[.int .i64 1, .int .i64 1, .slice a2 vs.length p2, .slice a3 l3 p3, .slice a4 l4 p4]] w (SayEnd ([116, 114, 117, 101]) w) := by
  have hbA : Hid (∀ o : Obj, Below w.heap.size w (w.alloc o)) := fun o => (Below.refl _ _).alloc (Nat.le_refl _) o
  have hbB : Hid (∀ o o' : Obj, Below w.heap.size w ((w.alloc o).alloc o')) := fun o o' => ((Below.refl _ _).alloc (Nat.le_refl _) o).alloc (by simp) o'
  have hsx : strOf [116, 114, 117, 101] = { data := #[116, 114, 117, 101] } := by rfl
  obtain ⟨cap, wB, hconv, hT, hbb, hzB⟩ := conv_back [116, 114, 117, 101] (by simp [Byt]) (by simp) ((w.alloc (.cells #[.int .i64 1, .int .i64 1, .slice a2 vs.length p2, .slice a3 l3 p3, .slice a4 l4 p4] 35)).alloc (.cells #[.string { data := #[102, 97, 108, 115, 101] }, .string { data := #[116, 114, 117, 101] }] 9))
  rw [hsx] at hconv
  have hS := hT.seg.out
  simp only [World.size_alloc] at hS hconv
  have HB := hide' (Below.on (hbB.out _ _) hbb)
  have HS := hide' hS
  have Hz := hide' hzB
  clear hT hbb hS hzB hsx
  go_enter Tryz.func17, Tryz.ntmps17
  go_wp2
  go_ret
  exact ⟨_, _, rfl, HS.out.1, by simp, fun x e => by have := Hz.out; simp at e this; subst e; simp; omega, HB.out⟩

set_option maxHeartbeats 1600000 in
set_option maxRecDepth 100000 in
theorem l2say_int (vn : Int) (vs : List Int) (a2 : Option Addr) (p2 : Nat) (a3 : Option Addr) (l3 p3 : Nat) (a4 : Option Addr) (l4 p4 : Nat) (w : World) (h0 : -1000000000000 ≤ vn) (h1 : vn ≤ 1000000000000) :
    Calls Tryz.prog 17 #[.agg #[.int .i64 2, .int .i64 vn, .slice a2 vs.length p2, .slice a3 l3 p3, .slice a4 l4 p4]] w (SayEnd (intT vn) w) := by
  have hbA : Hid (∀ o : Obj, Below w.heap.size w (w.alloc o)) := fun o => (Below.refl _ _).alloc (Nat.le_refl _) o
  have hbB : Hid (∀ o o' : Obj, Below w.heap.size w ((w.alloc o).alloc o')) := fun o o' => ((Below.refl _ _).alloc (Nat.le_refl _) o).alloc (by simp) o'
  have HC : Hid (∀ wx, Calls Tryz.prog 36 #[.int .i64 vn] wx fun e w' => ∃ v, e = .returned v ∧ Bts w' wx.heap.size v (intT vn) ∧ Below wx.heap.size wx w') := fun wx => l2digits_int vn h0 h1 wx
  go_enter Tryz.func17, Tryz.ntmps17
  go_wp2_with fail
  refine (HC.out _).mono ?_
  rintro e w1 ⟨u, rfl, hB, b1⟩
  have HB := hide' hB
  have B1 := Below.on (hbA.out _) b1
  clear hB b1
  go_wp2
  go_ret
  exact sayEnd_of HB.out (by simp) B1

set_option maxHeartbeats 1600000 in
set_option maxRecDepth 100000 in
theorem l2say_text (vn : Int) (vs : List Int) (a2 : Option Addr) (p2 : Nat) (a3 : Option Addr) (l3 p3 : Nat) (a4 : Option Addr) (l4 p4 : Nat) (w : World) (hs : Seg w a2 vs) (hl : vs.length ≤ 1000) :
    Calls Tryz.prog 17 #[.agg #[.int .i64 3, .int .i64 vn, .slice a2 vs.length p2, .slice a3 l3 p3, .slice a4 l4 p4]] w (SayEnd (quoT vs) w) := by
  have hbA : Hid (∀ o : Obj, Below w.heap.size w (w.alloc o)) := fun o => (Below.refl _ _).alloc (Nat.le_refl _) o
  have hbB : Hid (∀ o o' : Obj, Below w.heap.size w ((w.alloc o).alloc o')) := fun o o' => ((Below.refl _ _).alloc (Nat.le_refl _) o).alloc (by simp) o'
  have HC : Hid (∀ o : Obj, Calls Tryz.prog 37 #[.slice a2 vs.length p2] (w.alloc o) fun e w' => ∃ v, e = .returned v ∧ Bts w' (w.alloc o).heap.size v (quoT vs) ∧ Below (w.alloc o).heap.size (w.alloc o) w') := fun o => l2quoted_any a2 p2 vs (w.alloc o) (hs.grow (hbA.out o)) hl
  clear hs
  go_enter Tryz.func17, Tryz.ntmps17
  go_wp2_with fail
  refine (HC.out _).mono ?_
  rintro e w1 ⟨u, rfl, hB, b1⟩
  have HB := hide' hB
  have B1 := Below.on (hbA.out _) b1
  clear hB b1
  go_wp2
  go_ret
  exact sayEnd_of HB.out (by simp) B1
end Go.Proofs.YtdhlmcgbgdljmaaGreatDoor
/-
  Cells of a list of values, of a list of texts: the same behind later calls.
-/
namespace Go.Proofs.YtdhlmcgbgdljmaaGreatDoor
open Go.RowKit
set_option linter.unusedVariables false
set_option linter.unusedSimpArgs false

theorem KSeg.none_at {R : Nat → Prop} {w : World} {b off : Nat} {n cap : Nat} {ks : List (List Int)} (h : KSeg R w (.slice (some ⟨b, off, none⟩) n cap) ks) {k : Nat} (hk : k < ks.length) {ta : Option Addr} {l tc : Nat} (hq : w.cell? ⟨b, off + k, none⟩ = some (.slice ta l tc)) : ta = none → tc = 0 := by
  obtain ⟨a', cap', h1, h2, h3, h4, h5⟩ := h
  simp only [Value.slice.injEq] at h1
  obtain ⟨rfl, _, _⟩ := h1
  rcases h5 with h0 | ⟨b, off, e, _, hc⟩
  · subst h0; simp at hk
  · simp only [Option.some.injEq, Addr.mk.injEq] at e
    obtain ⟨rfl, rfl, _⟩ := e
    obtain ⟨u, hu, a2, c2, rfl, s2, l2, m2, k2, _⟩ := hc k hk
    rw [hq] at hu
    simp at hu
    obtain ⟨rfl, _, rfl⟩ := hu
    exact k2

theorem five_same {N : Nat} {w wr wx : World} {d : Nat} {b off n cap : Nat} {l : List (Vl d)} {c : Value × Value × Value × Value × Value} (h : LSeg (fun b => b < N) w d (.slice (some ⟨b, off, none⟩) n cap) l) (hx : Below w.heap.size w wx) (hr : Below w.heap.size w wr) (hN : N ≤ w.heap.size) {k : Nat} (hk : k < l.length) (h5 : Five wr b (off + k * 5) c) : Five wx b (off + k * 5) c := by
  obtain ⟨a', cap', h1, h2, h3, h4, h5'⟩ := h
  simp only [Value.slice.injEq] at h1
  obtain ⟨rfl, _, _⟩ := h1
  rcases h5' with h0 | ⟨b', off', e, hR, hc⟩
  · subst h0; simp at hk
  · simp only [Option.some.injEq, Addr.mk.injEq] at e
    obtain ⟨rfl, rfl, _⟩ := e
    have hbr : wr.heap[b]? = w.heap[b]? := hr.block b (by omega)
    have hbx : wx.heap[b]? = w.heap[b]? := hx.block b (by omega)
    have hcc : ∀ j, wx.cell? ⟨b, j, none⟩ = wr.cell? ⟨b, j, none⟩ := fun j => World.cell?_of_block (hbx.trans hbr.symm)
    exact ⟨(hcc _).trans h5.1, (hcc _).trans h5.2.1, (hcc _).trans h5.2.2.1, (hcc _).trans h5.2.2.2.1, (hcc _).trans h5.2.2.2.2⟩

end Go.Proofs.YtdhlmcgbgdljmaaGreatDoor
/-
  l2say of the specification: lists and maps, all; ValText.
-/
namespace Go.Proofs.YtdhlmcgbgdljmaaGreatDoor
open Go.RowKit
set_option linter.unusedVariables false
set_option linter.unusedSimpArgs false

/-- The contract of l2say at depth d. -/
def SayAt (d : Nat) : Prop := ∀ (N : Nat) (c : Value × Value × Value × Value × Value) (v : Vl d) (deep : Nat) (w : World), VSeg (fun b => b < N) w d c v → N ≤ w.heap.size → goodB d v deep = true → partsV d v ≤ 40 →
  Calls Tryz.prog 17 #[.agg #[c.1, c.2.1, c.2.2.1, c.2.2.2.1, c.2.2.2.2]] w (SayEnd (sayV d v) w)

theorem below_next {w wx : World} {o : Obj} (h : Below (w.heap.size + 1) (w.alloc o) wx) : Below w.heap.size w wx := by
  have h1 : Below (w.alloc o).heap.size (w.alloc o) wx := by simp only [World.size_alloc]; exact h
  exact Below.on ((Below.refl _ _).alloc (Nat.le_refl _) o) h1

theorem below_on1 {w w1 w2 : World} {o : Obj} (h : Below (w.heap.size + 1) (w.alloc o) w1) (k : Below w1.heap.size w1 w2) : Below (w.heap.size + 1) (w.alloc o) w2 := h.trans (k.mono (by have := h.size; simp at this; omega))

theorem kidS_first {α : Type} (f : α → List Int) (m : Bool) (K : List (List Int)) (L : List α) : kidS f m K L 0 = [] := rfl

set_option maxHeartbeats 3000000 in
set_option maxRecDepth 100000 in
theorem l2say_list (d : Nat) (ih : SayAt d) (N : Nat) (vn : Int) (vK : List (List Int)) (vL : List (Vl d)) (a2 : Option Addr) (l2 p2 : Nat) (a3 : Option Addr) (p3 : Nat) (a4 : Option Addr) (p4 : Nat) (deep : Nat) (w : World) (hN : N ≤ w.heap.size)
    (hl : LSeg (fun b => b < N) w d (.slice a4 vL.length p4) vL) (hk : KSeg (fun b => b < N) w (.slice a3 vK.length p3) vK) (hkl : True) (hkt : True) (hg : ∀ j (h : j < vL.length), goodB d vL[j] deep = true) (hp : 1 + pre (partsV d) vL vL.length ≤ 40) (hn : vL.length ≤ 40) :
    Calls Tryz.prog 17 #[.agg #[.int .i64 4, .int .i64 vn, .slice a2 l2 p2, .slice a3 vK.length p3, .slice a4 vL.length p4]] w (SayEnd (91 :: (kidS (sayV d) false vK vL vL.length ++ [93])) w) := by
  have HL := hide' hl
  have HK := hide' hk
  have HI := hide' ih
  have HG := hide' hg
  have HKL := hide' hkl
  have HKT := hide' hkt
  have HPk : Hid (∀ k (h : k < vL.length), partsV d vL[k] ≤ 40) := fun k h => by
    have h3 := pre_succ (partsV d) vL k h
    have h4 := pre_le (partsV d) vL (k + 1)
    have h5 := pre_all (partsV d) vL
    omega
  have HKn : Hid (∀ k, k ≤ vL.length → (kidS (sayV d) false vK vL k).length ≤ 2400) := fun k h => by
    have h1 := kidS_len (sayV d) (partsV d) false vK vL (fun h => by simp at h) (fun j h => sayV_len d vL[j] deep (hg j h)) k h
    have h4 := pre_le (partsV d) vL k
    have h5 := pre_all (partsV d) vL
    omega
  have HStp : Hid (∀ k (h : k < vL.length), kidS (sayV d) false vK vL (k + 1) = kidS (sayV d) false vK vL k ++ (aheadS false vK k ++ sayV d vL[k])) := fun k h => kidS_succ _ _ _ _ k h
  have HLen : Hid (∀ k (h : k < vL.length), (sayV d vL[k]).length ≤ 2400) := fun k h => by
    have h1 := sayV_len d vL[k] deep (hg k h)
    have h2 := HPk.out k h
    omega
  have HZ : Hid (kidS (sayV d) false vK vL 0 = []) := rfl
  generalize hkid : kidS (sayV d) false vK vL = kid at *
  obtain ⟨ob, HOb⟩ : ∃ ob, Hid (ob = Obj.cells #[.int .i64 4, .int .i64 vn, .slice a2 l2 p2, .slice a3 vK.length p3, .slice a4 vL.length p4] 35) := ⟨_, rfl⟩
  have hB0 : Hid (Bts ((w.alloc ob).alloc (.cells #[.int .u8 91] 5)) (w.heap.size + 1) (.slice (some ⟨w.heap.size + 1, 0, none⟩) 1 1) [91]) := by
    have h := bts_one (w.alloc ob) 91 (by unfold Byt; omega)
    simp only [World.size_alloc] at h
    exact h
  have hb0 : Hid (Below (w.heap.size + 1) (w.alloc ob) ((w.alloc ob).alloc (.cells #[.int .u8 91] 5))) := (Below.refl _ _).alloc (by simp) _
  have HBox : Hid (∀ wx, Below (w.heap.size + 1) (w.alloc ob) wx → wx.cell? ⟨w.heap.size, 0, none⟩ = some (.int .i64 4) ∧ wx.cell? ⟨w.heap.size, 1, none⟩ = some (.int .i64 vn) ∧ wx.cell? ⟨w.heap.size, 2, none⟩ = some (.slice a2 l2 p2) ∧ wx.cell? ⟨w.heap.size, 3, none⟩ = some (.slice a3 vK.length p3) ∧ wx.cell? ⟨w.heap.size, 4, none⟩ = some (.slice a4 vL.length p4)) := fun wx hb => by
    have h1 : Below (w.alloc ob).heap.size (w.alloc ob) wx := by simp only [World.size_alloc]; exact hb
    have h2 := box_row h1
    rw [HOb.out] at h2
    obtain ⟨y0, y1, y2, y3, y4, _⟩ := row5 h2
    exact ⟨y0, y1, y2, y3, y4⟩
  clear hl hk hg ih hkid hp hkl hkt
  rw [HOb.out] at hB0 hb0
  have HB0 := hB0
  have Hb0 := hb0
  clear hB0 hb0
  go_enter Tryz.func17, Tryz.ntmps17
  go_wp2
  go_loopw [5, 6] (fun y i wr => ∃ k : Nat, k ≤ vL.length ∧ i = .int .i64 k ∧ Hid (Bts wr (w.heap.size + 1) y (91 :: kid k)) ∧ Hid (Below (w.heap.size + 1) (w.alloc ob) wr)) (fun _ i _ => vL.length - (intOf i).toNat)
  case atStart => exact ⟨0, Nat.zero_le _, rfl, by rw [HZ.out]; exact HB0, by rw [HOb.out]; exact Hb0⟩
  case round =>
    obtain ⟨k, hk, rfl, hB, hbel⟩ := hrel
    obtain ⟨ya, yc, rfl, _, _, _, _, kk⟩ := hB.out.shape
    obtain ⟨y0, y1, y2, y3, y4⟩ := HBox.out wr hbel.out
    have B := below_next hbel.out
    have hz := hbel.out.size
    simp only [World.size_alloc] at hz
    have hkn := HKn.out k hk
    have HOwn := hide' hB.out.own
    obtain ⟨zs, hzs⟩ : ∃ zs, zs = 91 :: kid k := ⟨_, rfl⟩
    have hzl : zs.length ≤ 2401 := by rw [hzs]; simp; omega
    by_cases hlt : k < vL.length
    · have hlt' : (k : Int) < (vL.length : Int) := by omega
      obtain ⟨b, off, c, rfl, h5', hv⟩ := HL.out.at B hN hlt
      obtain ⟨c0, c1', c2, c3, c4⟩ := c
      have HFive : Hid (∀ wx, Below (w.heap.size + 1) (w.alloc ob) wx → wx.cell? ⟨b, off + k * 5, none⟩ = some c0 ∧ wx.cell? ⟨b, off + k * 5 + 1, none⟩ = some c1' ∧ wx.cell? ⟨b, off + k * 5 + 2, none⟩ = some c2 ∧ wx.cell? ⟨b, off + k * 5 + 3, none⟩ = some c3 ∧ wx.cell? ⟨b, off + k * 5 + 4, none⟩ = some c4) := fun wx hb => five_same HL.out (below_next hb) B hN hlt h5'
      obtain ⟨q0, q1, q2, q3, q4⟩ := h5'
      simp only at q0 q1 q2 q3 q4
      have hst := HStp.out k hlt
      have hkl8 := HLen.out k hlt
      have HC : Hid (∀ wx, Below (w.heap.size + 1) (w.alloc ob) wx → Calls Tryz.prog 17 #[.agg #[c0, c1', c2, c3, c4]] wx (SayEnd (sayV d vL[k]) wx)) := fun wx hb => HI.out N (c0, c1', c2, c3, c4) vL[k] deep wx (hv wx (below_next hb)) (by have := (below_next hb).size; omega) (HG.out k hlt) (HPk.out k hlt)
      generalize sayV d vL[k] = ks at *
      rw [← hzs] at hB HOwn
      have hzl2 : zs.length = (91 :: kid k).length := by rw [hzs]
      rw [← hzl2]
      by_cases hk0 : k = 0
      · have HSt : 91 :: kid (k + 1) = zs ++ ks := by rw [hst, hzs]; simp [aheadS, hk0]
        have hk0' : ¬ (0 : Int) < (k : Int) := by omega
        replace HSt := hide' HSt
        clear hst hzs hzl2 hv hk0 
        go_wp2_with fail
        refine (HC.out wr (hbel.out)).mono ?_
        rintro e w8 ⟨a8, c8, rfl, hs8, k8, _, b8⟩
        have hb8 : Hid (Below (w.heap.size + 1) (w.alloc ob) w8) := below_on1 (hbel.out) b8
        have hv8 := hide' ((hB.out).grow b8)
        have hz8 : w.heap.size + 1 ≤ w8.heap.size := by have := hb8.out.size; simpa using this
        clear b8 HC
        go_wp2_with (at_builtin; refine wpList_append_seg rfl (.tmp 62) (.tmp 68) (by rfl) (w.heap.size + 1) (.slice ya zs.length yc) (zs) ks (by rfl) hv8.out a8 ks.length c8 rfl (by rfl) hs8 k8 (by (try simp); omega) (by omega) ?_; intro v9 w9 hv9 hg9; have hb9 := hide' (hb8.out.grown hg9 hz8 (HOwn.out)); replace hv9 := hide' hv9; clear hg9)
        go_roundw
        case rel => exact ⟨k + 1, by omega, by go_num, by rw [HSt.out]; exact hv9, hb9⟩
        case measure => simp [intOf]; omega
      · have HSt : 91 :: kid (k + 1) = (zs ++ [44, 32]) ++ ks := by rw [hst, hzs]; simp [aheadS, hk0]
        have hk0' : (0 : Int) < (k : Int) := by omega
        replace HSt := hide' HSt
        clear hst hzs hzl2 hv hk0 
        go_wp2_with (first | (at_builtin; refine wpList_append_text rfl (.tmp 49) (.const (.string { data := #[44, 32] })) 9 (by rfl) Tryz.underlying9 (w.heap.size + 1) (.slice ya zs.length yc) (zs) [44, 32] (by rfl) (hB.out) _ (by rfl) (by simp [Byt]) (by rfl) (by (try simp); omega) (by omega) ?_; intro v1 w1 hv1 hg1; have hb1 := hide' ((hbel.out).grown hg1 (by have := (hbel.out).size; simp at this; omega) (HOwn.out)); have hz1 : w.heap.size + 1 ≤ w1.heap.size := (by have := hb1.out.size; simpa using this); obtain ⟨p10, p11, p12, p13, p14⟩ := HBox.out w1 hb1.out; obtain ⟨r10, r11, r12, r13, r14⟩ := HFive.out w1 hb1.out; have HOwn1 := hide' hv1.own; replace hv1 := hide' hv1; clear hg1))
        refine (HC.out w1 (hb1.out)).mono ?_
        rintro e w8 ⟨a8, c8, rfl, hs8, k8, _, b8⟩
        have hb8 : Hid (Below (w.heap.size + 1) (w.alloc ob) w8) := below_on1 (hb1.out) b8
        have hv8 := hide' ((hv1.out).grow b8)
        have hz8 : w.heap.size + 1 ≤ w8.heap.size := by have := hb8.out.size; simpa using this
        clear b8 HC
        go_wp2_with (at_builtin; refine wpList_append_seg rfl (.tmp 62) (.tmp 68) (by rfl) (w.heap.size + 1) v1 (zs ++ [44, 32]) ks (by rfl) hv8.out a8 ks.length c8 rfl (by rfl) hs8 k8 (by (try simp); omega) (by omega) ?_; intro v9 w9 hv9 hg9; have hb9 := hide' (hb8.out.grown hg9 hz8 (HOwn1.out)); replace hv9 := hide' hv9; clear hg9)
        go_roundw
        case rel => exact ⟨k + 1, by omega, by go_num, by rw [HSt.out]; exact hv9, hb9⟩
        case measure => simp [intOf]; omega
    · have hkn' : k = vL.length := by omega
      have hlt' : ¬ (k : Int) < (vL.length : Int) := by omega
      have HF : Hid (91 :: (kid vL.length ++ [93]) = zs ++ [93]) := by show _ = _; rw [hzs, hkn']; simp
      rw [← hzs] at hB HOwn
      have hzl2 : zs.length = (91 :: kid k).length := by rw [hzs]
      rw [← hzl2]
      have hS1 := seg_one wr 93 (by unfold Byt; omega)
      have hA2 := hB.out.alloc (.cells #[.int .u8 93] 5)
      have hbA : Hid (∀ o : Obj, Below (w.heap.size + 1) (w.alloc ob) (wr.alloc o)) := fun o => hbel.out.alloc hz o
      clear hkn' hzs hzl2
      go_wp2_with (at_builtin; refine wpList_append_seg rfl _ _ (by rfl) (w.heap.size + 1) (.slice ya zs.length yc) zs [93] (by rfl) hA2 _ 1 1 rfl (by rfl) hS1 (by simp) (by (try simp); omega) (by (try simp); omega) ?_; intro v2 w2 hv2 hg2; have hb2 := hide' ((hbA.out _).grown hg2 (by (try simp); omega) HOwn.out); replace hv2 := hide' hv2; clear hg2)
      go_ret
      rw [HF.out]
      exact sayEnd_of (w1 := w.alloc ob) (by simp only [World.size_alloc]; exact hv2.out) (by simp) (below_next hb2.out)
end Go.Proofs.YtdhlmcgbgdljmaaGreatDoor
/-
  l2say of the specification: maps.
-/
namespace Go.Proofs.YtdhlmcgbgdljmaaGreatDoor
open Go.RowKit
set_option linter.unusedVariables false
set_option linter.unusedSimpArgs false

theorem key_same {N : Nat} {w wr wx : World} {b off n cap : Nat} {K : List (List Int)} {ta : Option Addr} {l tc : Nat} (h : KSeg (fun b => b < N) w (.slice (some ⟨b, off, none⟩) n cap) K) (hx : Below w.heap.size w wx) (hr : Below w.heap.size w wr) (hN : N ≤ w.heap.size) {k : Nat} (hk : k < K.length) (hq : wr.cell? ⟨b, off + k, none⟩ = some (.slice ta l tc)) :
    wx.cell? ⟨b, off + k, none⟩ = some (.slice ta l tc) ∧ Seg wx ta (K.getD k []) := by
  obtain ⟨a', cap', h1, h2, h3, h4, h5'⟩ := h.agree (agree_below (hx.mono hN))
  simp only [Value.slice.injEq] at h1
  obtain ⟨rfl, _, _⟩ := h1
  rcases h5' with h0 | ⟨b', off', e, hR, hc⟩
  · subst h0; simp at hk
  · simp only [Option.some.injEq, Addr.mk.injEq] at e
    obtain ⟨rfl, rfl, _⟩ := e
    have hcc : wx.cell? ⟨b, off + k, none⟩ = wr.cell? ⟨b, off + k, none⟩ := World.cell?_of_block ((hx.block b (by omega)).trans (hr.block b (by omega)).symm)
    obtain ⟨u, hu, a2, c2, rfl, s2, _⟩ := hc k hk
    have he := (hu.symm.trans hcc).trans hq
    simp only [Option.some.injEq, Value.slice.injEq] at he
    obtain ⟨rfl, rfl, rfl⟩ := he
    exact ⟨hu, s2⟩

set_option maxHeartbeats 3000000 in
set_option maxRecDepth 100000 in
theorem l2say_map (d : Nat) (ih : SayAt d) (N : Nat) (vn : Int) (vK : List (List Int)) (vL : List (Vl d)) (a2 : Option Addr) (l2 p2 : Nat) (a3 : Option Addr) (p3 : Nat) (a4 : Option Addr) (p4 : Nat) (deep : Nat) (w : World) (hN : N ≤ w.heap.size)
    (hl : LSeg (fun b => b < N) w d (.slice a4 vL.length p4) vL) (hk : KSeg (fun b => b < N) w (.slice a3 vK.length p3) vK) (hkl : vK.length = vL.length) (hkt : ∀ j, j < vK.length → (vK.getD j []).length ≤ 8) (hg : ∀ j (h : j < vL.length), goodB d vL[j] deep = true) (hp : 1 + pre (partsV d) vL vL.length ≤ 40) (hn : vL.length ≤ 40) :
    Calls Tryz.prog 17 #[.agg #[.int .i64 5, .int .i64 vn, .slice a2 l2 p2, .slice a3 vK.length p3, .slice a4 vL.length p4]] w (SayEnd (123 :: (kidS (sayV d) true vK vL vL.length ++ [125])) w) := by
  have HL := hide' hl
  have HK := hide' hk
  have HI := hide' ih
  have HG := hide' hg
  have HKL := hide' hkl
  have HKT := hide' hkt
  have HPk : Hid (∀ k (h : k < vL.length), partsV d vL[k] ≤ 40) := fun k h => by
    have h3 := pre_succ (partsV d) vL k h
    have h4 := pre_le (partsV d) vL (k + 1)
    have h5 := pre_all (partsV d) vL
    omega
  have HKn : Hid (∀ k, k ≤ vL.length → (kidS (sayV d) true vK vL k).length ≤ 2400) := fun k h => by
    have h1 := kidS_len (sayV d) (partsV d) true vK vL (fun _ j hj => hkt j (by omega)) (fun j h => sayV_len d vL[j] deep (hg j h)) k h
    have h4 := pre_le (partsV d) vL k
    have h5 := pre_all (partsV d) vL
    omega
  have HStp : Hid (∀ k (h : k < vL.length), kidS (sayV d) true vK vL (k + 1) = kidS (sayV d) true vK vL k ++ (aheadS true vK k ++ sayV d vL[k])) := fun k h => kidS_succ _ _ _ _ k h
  have HLen : Hid (∀ k (h : k < vL.length), (sayV d vL[k]).length ≤ 2400) := fun k h => by
    have h1 := sayV_len d vL[k] deep (hg k h)
    have h2 := HPk.out k h
    omega
  have HZ : Hid (kidS (sayV d) true vK vL 0 = []) := rfl
  generalize hkid : kidS (sayV d) true vK vL = kid at *
  obtain ⟨ob, HOb⟩ : ∃ ob, Hid (ob = Obj.cells #[.int .i64 5, .int .i64 vn, .slice a2 l2 p2, .slice a3 vK.length p3, .slice a4 vL.length p4] 35) := ⟨_, rfl⟩
  have hB0 : Hid (Bts ((w.alloc ob).alloc (.cells #[.int .u8 123] 5)) (w.heap.size + 1) (.slice (some ⟨w.heap.size + 1, 0, none⟩) 1 1) [123]) := by
    have h := bts_one (w.alloc ob) 123 (by unfold Byt; omega)
    simp only [World.size_alloc] at h
    exact h
  have hb0 : Hid (Below (w.heap.size + 1) (w.alloc ob) ((w.alloc ob).alloc (.cells #[.int .u8 123] 5))) := (Below.refl _ _).alloc (by simp) _
  have HBox : Hid (∀ wx, Below (w.heap.size + 1) (w.alloc ob) wx → wx.cell? ⟨w.heap.size, 0, none⟩ = some (.int .i64 5) ∧ wx.cell? ⟨w.heap.size, 1, none⟩ = some (.int .i64 vn) ∧ wx.cell? ⟨w.heap.size, 2, none⟩ = some (.slice a2 l2 p2) ∧ wx.cell? ⟨w.heap.size, 3, none⟩ = some (.slice a3 vK.length p3) ∧ wx.cell? ⟨w.heap.size, 4, none⟩ = some (.slice a4 vL.length p4)) := fun wx hb => by
    have h1 : Below (w.alloc ob).heap.size (w.alloc ob) wx := by simp only [World.size_alloc]; exact hb
    have h2 := box_row h1
    rw [HOb.out] at h2
    obtain ⟨y0, y1, y2, y3, y4, _⟩ := row5 h2
    exact ⟨y0, y1, y2, y3, y4⟩
  clear hl hk hg ih hkid hp hkl hkt
  rw [HOb.out] at hB0 hb0
  have HB0 := hB0
  have Hb0 := hb0
  clear hB0 hb0
  go_enter Tryz.func17, Tryz.ntmps17
  go_wp2
  go_loopw [5, 6] (fun y i wr => ∃ k : Nat, k ≤ vL.length ∧ i = .int .i64 k ∧ Hid (Bts wr (w.heap.size + 1) y (123 :: kid k)) ∧ Hid (Below (w.heap.size + 1) (w.alloc ob) wr)) (fun _ i _ => vL.length - (intOf i).toNat)
  case atStart => exact ⟨0, Nat.zero_le _, rfl, by rw [HZ.out]; exact HB0, by rw [HOb.out]; exact Hb0⟩
  case round =>
    obtain ⟨k, hk, rfl, hB, hbel⟩ := hrel
    obtain ⟨ya, yc, rfl, _, _, _, _, kk⟩ := hB.out.shape
    obtain ⟨y0, y1, y2, y3, y4⟩ := HBox.out wr hbel.out
    have B := below_next hbel.out
    have hz := hbel.out.size
    simp only [World.size_alloc] at hz
    have hkn := HKn.out k hk
    have HOwn := hide' hB.out.own
    obtain ⟨zs, hzs⟩ : ∃ zs, zs = 123 :: kid k := ⟨_, rfl⟩
    have hzl : zs.length ≤ 2401 := by rw [hzs]; simp; omega
    by_cases hlt : k < vL.length
    · have hlt' : (k : Int) < (vL.length : Int) := by omega
      obtain ⟨b, off, c, rfl, h5', hv⟩ := HL.out.at B hN hlt
      obtain ⟨c0, c1', c2, c3, c4⟩ := c
      have HFive : Hid (∀ wx, Below (w.heap.size + 1) (w.alloc ob) wx → wx.cell? ⟨b, off + k * 5, none⟩ = some c0 ∧ wx.cell? ⟨b, off + k * 5 + 1, none⟩ = some c1' ∧ wx.cell? ⟨b, off + k * 5 + 2, none⟩ = some c2 ∧ wx.cell? ⟨b, off + k * 5 + 3, none⟩ = some c3 ∧ wx.cell? ⟨b, off + k * 5 + 4, none⟩ = some c4) := fun wx hb => five_same HL.out (below_next hb) B hN hlt h5'
      obtain ⟨q0, q1, q2, q3, q4⟩ := h5'
      simp only at q0 q1 q2 q3 q4
      have hst := HStp.out k hlt
      have hkl8 := HLen.out k hlt
      have HC : Hid (∀ wx, Below (w.heap.size + 1) (w.alloc ob) wx → Calls Tryz.prog 17 #[.agg #[c0, c1', c2, c3, c4]] wx (SayEnd (sayV d vL[k]) wx)) := fun wx hb => HI.out N (c0, c1', c2, c3, c4) vL[k] deep wx (hv wx (below_next hb)) (by have := (below_next hb).size; omega) (HG.out k hlt) (HPk.out k hlt)
      have hlt3 : k < vK.length := by rw [HKL.out]; exact hlt
      have hlt3' : (k : Int) < (vK.length : Int) := by omega
      obtain ⟨bk, okk, rfl, hkc0⟩ := (HK.out.agree (agree_below (B.mono hN))).at hlt3
      obtain ⟨ta, tc, qk, _, _⟩ := hkc0 k hlt3
      have ktc : ta = none → tc = 0 := KSeg.none_at (HK.out.agree (agree_below (B.mono hN))) hlt3 qk
      have hkl9 := HKT.out k hlt3
      have HKey0 : Hid (∀ wx, Below (w.heap.size + 1) (w.alloc ob) wx → wx.cell? ⟨bk, okk + k, none⟩ = some (.slice ta (vK.getD k []).length tc) ∧ Seg wx ta (vK.getD k [])) := fun wx hb => key_same HK.out (below_next hb) B hN hlt3 qk
      obtain ⟨ts, hts⟩ : ∃ ts, ts = vK.getD k [] := ⟨_, rfl⟩
      rw [← hts] at HKey0 hkl9 qk
      have HKey : Hid (∀ wx, Below (w.heap.size + 1) (w.alloc ob) wx → wx.cell? ⟨bk, okk + k, none⟩ = some (.slice ta ts.length tc)) := fun wx hb => (HKey0.out wx hb).1
      have HKs : Hid (∀ wx, Below (w.heap.size + 1) (w.alloc ob) wx → Seg wx ta ts) := fun wx hb => (HKey0.out wx hb).2
      clear hkc0
      generalize sayV d vL[k] = ks at *
      rw [← hzs] at hB HOwn
      have hzl2 : zs.length = (123 :: kid k).length := by rw [hzs]
      rw [← hzl2]
      by_cases hk0 : k = 0
      · have HSt : 123 :: kid (k + 1) = ((zs ++ ts) ++ [32, 61, 32]) ++ ks := by rw [hst, hzs]; simp [aheadS, hk0, hts]
        have hk0' : ¬ (0 : Int) < (k : Int) := by omega
        replace HSt := hide' HSt
        clear hst hzs hzl2 hv hk0 hts
        go_wp2_with (first | (at_builtin; refine wpList_append_seg rfl (.tmp 54) (.tmp 59) (by rfl) (w.heap.size + 1) (.slice ya zs.length yc) (zs) ts (by rfl) (hB.out) ta ts.length tc rfl (by rfl) (HKs.out _ (hbel.out)) ktc (by (try simp); omega) (by omega) ?_; intro v1 w1 hv1 hg1; have hb1 := hide' ((hbel.out).grown hg1 (by have := (hbel.out).size; simp at this; omega) (HOwn.out)); have hz1 : w.heap.size + 1 ≤ w1.heap.size := (by have := hb1.out.size; simpa using this); obtain ⟨p10, p11, p12, p13, p14⟩ := HBox.out w1 hb1.out; obtain ⟨r10, r11, r12, r13, r14⟩ := HFive.out w1 hb1.out; have HOwn1 := hide' hv1.own; have hkc1 := HKey.out w1 hb1.out; replace hv1 := hide' hv1; clear hg1) | (at_builtin; refine wpList_append_text rfl (.tmp 60) (.const (.string { data := #[32, 61, 32] })) 9 (by rfl) Tryz.underlying9 (w.heap.size + 1) v1 (zs ++ ts) [32, 61, 32] (by rfl) (hv1.out) _ (by rfl) (by simp [Byt]) (by rfl) (by (try simp); omega) (by omega) ?_; intro v2 w2 hv2 hg2; have hb2 := hide' ((hb1.out).grown hg2 (by have := (hb1.out).size; simp at this; omega) (HOwn1.out)); have hz2 : w.heap.size + 1 ≤ w2.heap.size := (by have := hb2.out.size; simpa using this); obtain ⟨p20, p21, p22, p23, p24⟩ := HBox.out w2 hb2.out; obtain ⟨r20, r21, r22, r23, r24⟩ := HFive.out w2 hb2.out; have HOwn2 := hide' hv2.own; have hkc2 := HKey.out w2 hb2.out; replace hv2 := hide' hv2; clear hg2))
        refine (HC.out w2 (hb2.out)).mono ?_
        rintro e w8 ⟨a8, c8, rfl, hs8, k8, _, b8⟩
        have hb8 : Hid (Below (w.heap.size + 1) (w.alloc ob) w8) := below_on1 (hb2.out) b8
        have hv8 := hide' ((hv2.out).grow b8)
        have hz8 : w.heap.size + 1 ≤ w8.heap.size := by have := hb8.out.size; simpa using this
        clear b8 HC
        go_wp2_with (at_builtin; refine wpList_append_seg rfl (.tmp 62) (.tmp 68) (by rfl) (w.heap.size + 1) v2 ((zs ++ ts) ++ [32, 61, 32]) ks (by rfl) hv8.out a8 ks.length c8 rfl (by rfl) hs8 k8 (by (try simp); omega) (by omega) ?_; intro v9 w9 hv9 hg9; have hb9 := hide' (hb8.out.grown hg9 hz8 (HOwn2.out)); replace hv9 := hide' hv9; clear hg9)
        go_roundw
        case rel => exact ⟨k + 1, by omega, by go_num, by rw [HSt.out]; exact hv9, hb9⟩
        case measure => simp [intOf]; omega
      · have HSt : 123 :: kid (k + 1) = (((zs ++ [44, 32]) ++ ts) ++ [32, 61, 32]) ++ ks := by rw [hst, hzs]; simp [aheadS, hk0, hts]
        have hk0' : (0 : Int) < (k : Int) := by omega
        replace HSt := hide' HSt
        clear hst hzs hzl2 hv hk0 hts
        go_wp2_with (first | (at_builtin; refine wpList_append_text rfl (.tmp 49) (.const (.string { data := #[44, 32] })) 9 (by rfl) Tryz.underlying9 (w.heap.size + 1) (.slice ya zs.length yc) (zs) [44, 32] (by rfl) (hB.out) _ (by rfl) (by simp [Byt]) (by rfl) (by (try simp); omega) (by omega) ?_; intro v1 w1 hv1 hg1; have hb1 := hide' ((hbel.out).grown hg1 (by have := (hbel.out).size; simp at this; omega) (HOwn.out)); have hz1 : w.heap.size + 1 ≤ w1.heap.size := (by have := hb1.out.size; simpa using this); obtain ⟨p10, p11, p12, p13, p14⟩ := HBox.out w1 hb1.out; obtain ⟨r10, r11, r12, r13, r14⟩ := HFive.out w1 hb1.out; have HOwn1 := hide' hv1.own; have hkc1 := HKey.out w1 hb1.out; replace hv1 := hide' hv1; clear hg1) | (at_builtin; refine wpList_append_seg rfl (.tmp 54) (.tmp 59) (by rfl) (w.heap.size + 1) v1 (zs ++ [44, 32]) ts (by rfl) (hv1.out) ta ts.length tc rfl (by rfl) (HKs.out _ (hb1.out)) ktc (by (try simp); omega) (by omega) ?_; intro v2 w2 hv2 hg2; have hb2 := hide' ((hb1.out).grown hg2 (by have := (hb1.out).size; simp at this; omega) (HOwn1.out)); have hz2 : w.heap.size + 1 ≤ w2.heap.size := (by have := hb2.out.size; simpa using this); obtain ⟨p20, p21, p22, p23, p24⟩ := HBox.out w2 hb2.out; obtain ⟨r20, r21, r22, r23, r24⟩ := HFive.out w2 hb2.out; have HOwn2 := hide' hv2.own; have hkc2 := HKey.out w2 hb2.out; replace hv2 := hide' hv2; clear hg2) | (at_builtin; refine wpList_append_text rfl (.tmp 60) (.const (.string { data := #[32, 61, 32] })) 9 (by rfl) Tryz.underlying9 (w.heap.size + 1) v2 ((zs ++ [44, 32]) ++ ts) [32, 61, 32] (by rfl) (hv2.out) _ (by rfl) (by simp [Byt]) (by rfl) (by (try simp); omega) (by omega) ?_; intro v3 w3 hv3 hg3; have hb3 := hide' ((hb2.out).grown hg3 (by have := (hb2.out).size; simp at this; omega) (HOwn2.out)); have hz3 : w.heap.size + 1 ≤ w3.heap.size := (by have := hb3.out.size; simpa using this); obtain ⟨p30, p31, p32, p33, p34⟩ := HBox.out w3 hb3.out; obtain ⟨r30, r31, r32, r33, r34⟩ := HFive.out w3 hb3.out; have HOwn3 := hide' hv3.own; have hkc3 := HKey.out w3 hb3.out; replace hv3 := hide' hv3; clear hg3))
        refine (HC.out w3 (hb3.out)).mono ?_
        rintro e w8 ⟨a8, c8, rfl, hs8, k8, _, b8⟩
        have hb8 : Hid (Below (w.heap.size + 1) (w.alloc ob) w8) := below_on1 (hb3.out) b8
        have hv8 := hide' ((hv3.out).grow b8)
        have hz8 : w.heap.size + 1 ≤ w8.heap.size := by have := hb8.out.size; simpa using this
        clear b8 HC
        go_wp2_with (at_builtin; refine wpList_append_seg rfl (.tmp 62) (.tmp 68) (by rfl) (w.heap.size + 1) v3 (((zs ++ [44, 32]) ++ ts) ++ [32, 61, 32]) ks (by rfl) hv8.out a8 ks.length c8 rfl (by rfl) hs8 k8 (by (try simp); omega) (by omega) ?_; intro v9 w9 hv9 hg9; have hb9 := hide' (hb8.out.grown hg9 hz8 (HOwn3.out)); replace hv9 := hide' hv9; clear hg9)
        go_roundw
        case rel => exact ⟨k + 1, by omega, by go_num, by rw [HSt.out]; exact hv9, hb9⟩
        case measure => simp [intOf]; omega
    · have hkn' : k = vL.length := by omega
      have hlt' : ¬ (k : Int) < (vL.length : Int) := by omega
      have HF : Hid (123 :: (kid vL.length ++ [125]) = zs ++ [125]) := by show _ = _; rw [hzs, hkn']; simp
      rw [← hzs] at hB HOwn
      have hzl2 : zs.length = (123 :: kid k).length := by rw [hzs]
      rw [← hzl2]
      have hS1 := seg_one wr 125 (by unfold Byt; omega)
      have hA2 := hB.out.alloc (.cells #[.int .u8 125] 5)
      have hbA : Hid (∀ o : Obj, Below (w.heap.size + 1) (w.alloc ob) (wr.alloc o)) := fun o => hbel.out.alloc hz o
      clear hkn' hzs hzl2
      go_wp2_with (at_builtin; refine wpList_append_seg rfl _ _ (by rfl) (w.heap.size + 1) (.slice ya zs.length yc) zs [125] (by rfl) hA2 _ 1 1 rfl (by rfl) hS1 (by simp) (by (try simp); omega) (by (try simp); omega) ?_; intro v2 w2 hv2 hg2; have hb2 := hide' ((hbA.out _).grown hg2 (by (try simp); omega) HOwn.out); replace hv2 := hide' hv2; clear hg2)
      go_ret
      rw [HF.out]
      exact sayEnd_of (w1 := w.alloc ob) (by simp only [World.size_alloc]; exact hv2.out) (by simp) (below_next hb2.out)
end Go.Proofs.YtdhlmcgbgdljmaaGreatDoor
