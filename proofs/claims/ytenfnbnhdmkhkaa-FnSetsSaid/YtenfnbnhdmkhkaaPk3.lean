/-
  Texts that a law leans on, one behind the other; no statement is proved here.
-/
import Derived.Test.YtenfnbnhdmkhkaaPk2
import Derived.Lib.AppendStr
import Derived.Test.YtenfnbnhdmkhkaaPk1
/-
  A string of bytes as cells; 'append(out, s...)' of a string.
-/
namespace Go.Proofs.Ytenfnbnhdmkhkaa
open Go.RowKit
set_option linter.unusedVariables false

theorem strCells_of {xs : List Int} (h : ∀ x ∈ xs, Byt x) : Lib.strCells (strOf xs) = cellsOf xs := by
  show (u8s xs).map (fun b => Value.int .u8 (b.toNat : Int)) = _
  unfold u8s cellsOf
  rw [List.map_map]
  refine List.map_congr_left fun x hx => ?_
  have hb := h x hx
  unfold Byt at hb
  simp
  omega

theorem size_strOf (xs : List Int) : (strOf xs).size = xs.length := by simp [strOf, ByteArray.size]

/-- 'append(out, s...)', out nil or the call's own, s a string: what is owned grows by the bytes of s. -/
theorem wpList_append_text {w : World} {ops : Array Oper} {rest : List Oper} {o : Oper} {a : Act} {Q : Exit → Act → World → Prop} (hgd : o.guard = none) (s x : Operand) (t : TypeId)
    (ho : o.op = .call { callee := .builtin .append, args := #[s, x], argTypes := #[22, t] }) (ht : Try.prog.underlying t = some .string)
    (base : Nat) (v : Value) (xs ys : List Int) (hs : a.eval s = v) (hB : Bts w base v xs) (sx : ByteArray) (hsx : sx = strOf ys) (hy : ∀ y ∈ ys, Byt y) (hx : a.eval x = .string sx)
    (hlen : xs.length + ys.length ≤ 1099511627776) (hbase : base ≤ w.heap.size)
    (h : ∀ v' w', Bts w' base v' (xs ++ ys) → w.grownBy w' v.ownBlock → wpList Try.prog ops Q rest (a.put o.dst v') w') : wpList Try.prog ops Q (o :: rest) a w := by
  obtain ⟨i0, hi, hz0, hz1, hz2⟩ := info_parts info5
  subst hsx
  have hsz := size_strOf ys
  refine Lib.wpList_append_own_string w hgd s x 22 t ho base 5 i0 Try.underlying22 ht hi hz0 hz1 hz2 v xs.length (cellsOf xs) hs hB.2 (strOf ys) hx (by unfold maxLen; omega) (by omega) hbase ?_
  intro v' w' hown hg _
  refine h v' w' ⟨?_, ?_⟩ hg
  · intro z hz
    rcases List.mem_append.1 hz with h1 | h1
    · exact hB.1 z h1
    · exact hy z h1
  · rw [strCells_of hy, hsz, ← cellsOf_append] at hown
    rw [List.length_append]
    exact hown

end Go.Proofs.Ytenfnbnhdmkhkaa
/-
  What is drawn of texts: '[]byte(s)' of a string; a name that is drawn is one.
-/
namespace Go.Proofs.Ytenfnbnhdmkhkaa
open Go.RowKit
set_option linter.unusedVariables false
set_option linter.unusedSimpArgs false

/-- A text in new memory. -/
def Txt (B : Nat) (w : World) (v : Value) (xs : List Int) : Prop := ∃ a cap, v = .slice a xs.length cap ∧ Seg w a xs ∧ xs.length ≤ cap ∧ cap ≤ maxLen ∧ (a = none → cap = 0) ∧ ∀ x, a = some x → B ≤ x.block

/-- '[]byte(s)': a text of the call's own. -/
theorem conv_txt (xs : List Int) (hx : ∀ x ∈ xs, Byt x) (hl : xs.length ≤ 1000) (w : World) : ∃ cap wB, (convert 9 22 (.string (strOf xs))).run Try.prog w = .ok (.slice (some ⟨w.heap.size, 0, none⟩) xs.length cap) wB ∧
    Txt w.heap.size wB (.slice (some ⟨w.heap.size, 0, none⟩) xs.length cap) xs ∧ Below w.heap.size w wB := by
  have hsz := size_strOf xs
  have hsc := strCells_of hx
  have hrun := run_bytes_of_string (P := Try.prog) w 9 22 5 (strOf xs) Try.underlying9 Try.underlying22 Try.underlying5
  rw [hsz] at hrun
  have hge := grownCap_ge w xs.length 0 5
  have hle := grownCap_le_maxLen w xs.length 0 5 (by unfold maxLen; omega)
  generalize grownCap w xs.length 0 5 = cap at hrun hge hle
  have hrs : (bytesRow (strOf xs) cap).size = cap := by
    have h1 : (strOf xs).data.size = xs.length := hsz
    simp [bytesRow, h1, hsz]
    omega
  have hrt : (bytesRow (strOf xs) cap).toList.take xs.length = cellsOf xs := by
    rw [← hsc]
    unfold bytesRow Lib.strCells
    rw [Array.toList_append, Array.toList_map, List.take_append_of_le_length (by simp; exact Nat.le_of_eq hsz.symm)]
    rw [List.take_of_length_le (by simp; exact Nat.le_of_eq hsz)]
  rw [hrs] at hrun
  refine ⟨cap, _, hrun, ⟨_, _, rfl, ⟨hx, .inr ⟨w.heap.size, 0, rfl, fun i hi => ?_⟩⟩, hge, hle, by simp, fun x hx => by simp at hx; subst hx; exact Nat.le_refl _⟩, ((Below.refl _ w).drew).alloc (Nat.le_refl _) _⟩
  rw [Nat.zero_add, cell_of_row _ w.heap.size i _ 5 _ (heap_alloc_new w.drew _)]
  have := congrArg (·[i]?) hrt
  simp only [List.getElem?_take, if_pos hi] at this
  rw [Array.getElem?_toList] at this
  rw [this]
  simp [cellsOf, hi]

/-- What a draw of a text leaves. -/
def TxtEnd (p : List Int → Prop) (g : Nat) (a : Option Addr) (cap : Nat) (cs : List Int) (w : World) (e : Ending) (w' : World) : Prop :=
  ∃ v xs, e = .returned v ∧ Txt w.heap.size w' v xs ∧ p xs ∧ Drw w' g a cap cs ∧ w.grownBy w' (some g)

theorem grownBy_below {w0 w1 w2 : World} {g : Nat} (h : w0.grownBy w1 (some g)) (k : Below w1.heap.size w1 w2) : w0.grownBy w2 (some g) :=
  ⟨k.os.trans h.os, k.tape.trans h.tape, k.output.trans h.output, Nat.le_trans h.size k.size, fun i hi hne => (k.block i (Nat.lt_of_lt_of_le hi h.size)).trans (h.block i hi hne)⟩
theorem below_grownBy {w0 w1 w2 : World} {g : Nat} (h : Below w0.heap.size w0 w1) (k : w1.grownBy w2 (some g)) : w0.grownBy w2 (some g) :=
  ⟨k.os.trans h.os, k.tape.trans h.tape, k.output.trans h.output, Nat.le_trans h.size k.size, fun i hi hne => (k.block i (Nat.lt_of_lt_of_le hi h.size) hne).trans (h.block i hi)⟩

theorem Txt.mono {B B' : Nat} {w : World} {v : Value} {xs : List Int} (h : Txt B w v xs) (hb : B' ≤ B) : Txt B' w v xs := by
  obtain ⟨a, cap, h1, h2, h3, h4, h5, h6⟩ := h
  exact ⟨a, cap, h1, h2, h3, h4, h5, fun x hx => Nat.le_trans hb (h6 x hx)⟩

theorem Txt.grow {B : Nat} {w w' : World} {v : Value} {xs : List Int} (h : Txt B w v xs) (hb : Below w.heap.size w w') : Txt B w' v xs := by
  obtain ⟨a, cap, h1, h2, h3⟩ := h
  exact ⟨a, cap, h1, h2.grow hb, h3⟩
theorem Txt.away {B g : Nat} {w w' : World} {v : Value} {xs : List Int} (h : Txt B w v xs) (hg : w.grownBy w' (some g)) (hgB : g < B) : Txt B w' v xs := by
  obtain ⟨a, cap, h1, h2, h3, h4, h5, h6⟩ := h
  exact ⟨a, cap, h1, h2.away hg (fun x hx _ e => by have := h6 x hx; simp at e; omega), h3, h4, h5, h6⟩
theorem nameB_le8 {xs : List Int} (h : nameB xs = true) : xs.length ≤ 9 := by simp [nameB] at h; omega

/-- The names that are drawn. -/
def names7 : List (List Int) := [[97], [98], [99], [115, 105, 122, 101], [122, 111, 110, 101], [107, 105, 110, 100], [116, 97, 103]]
theorem names7_ok : ∀ k, k < 7 → nameB (names7.getD k []) = true ∧ (names7.getD k []).length ≤ 8 := by decide
theorem names_byt {xs : List Int} (h : nameB xs = true) : ∀ x ∈ xs, Byt x := by
  intro x hx
  simp only [nameB, Bool.and_eq_true, List.all_eq_true] at h
  have := h.2 x hx
  simp [letB] at this
  unfold Byt
  omega

set_option maxHeartbeats 800000 in
set_option maxRecDepth 100000 in
theorem l2drawName_drw (g : Nat) (a : Option Addr) (cap : Nat) (cs : List Int) (w : World) (h : Drw w g a cap cs) :
    Calls Try.prog 32 #[.pointer (some ⟨g, 0, none⟩)] w (TxtEnd (fun xs => nameB xs = true) g a cap cs w) := by
  have HA : Hid (∀ o : Obj, Below w.heap.size w (w.alloc o) ∧ (w.alloc o).heap[w.heap.size]? = some o) := fun o => ⟨(Below.refl _ _).alloc (Nat.le_refl _) o, heap_alloc_new w o⟩
  have hgl := h.lt
  have HL : Hid (∀ o : Obj, Calls Try.prog 38 #[.pointer (some ⟨g, 0, none⟩), .int .i64 7] (w.alloc o) fun e w' => ∃ x : Int, e = .returned (.int .i64 x) ∧ 0 ≤ x ∧ (0 < (7 : Int) → x < 7) ∧ ((7 : Int) ≤ 0 → x = 0) ∧ Drw w' g a cap cs ∧ (w.alloc o).grownBy w' (some g)) := fun o => l1Below_drw g a cap cs 7 _ (h.grow (HA.out o).1) (by omega)
  clear h
  go_enter Try.func32, Try.ntmps32
  go_wp2_with fail
  refine (HL.out _).mono ?_
  rintro e w2 ⟨x, rfl, hx0, hx7, _, hd, hg2⟩
  obtain ⟨k, rfl⟩ : ∃ k : Nat, x = k := ⟨x.toNat, by omega⟩
  have hk : k < 7 := by have := hx7 (by omega); omega
  have G2 := below_grownBy (HA.out _).1 hg2
  have hblk := (hg2.block w.heap.size (by simp) (by simp; omega)).trans (HA.out _).2
  have hcell : w2.cell? ⟨w.heap.size, k, none⟩ = some (.string (strOf (names7.getD k []))) := by
    rw [cell_of_row w2 w.heap.size k _ 9 (0, 0) hblk]
    obtain rfl | rfl | rfl | rfl | rfl | rfl | rfl : k = 0 ∨ k = 1 ∨ k = 2 ∨ k = 3 ∨ k = 4 ∨ k = 5 ∨ k = 6 := by omega
    all_goals rfl
  obtain ⟨hnb, hnl⟩ := names7_ok k hk
  obtain ⟨ck, wB, hconv, hT, hB⟩ := conv_txt (names7.getD k []) (names_byt hnb) (by omega) w2
  have hk' : (k : Int) < 7 := by omega
  have hk0 : (0 : Int) ≤ (k : Int) := by omega
  have HE : Hid (TxtEnd (fun xs => nameB xs = true) g a cap cs w (.returned (.slice (some ⟨w2.heap.size, 0, none⟩) (names7.getD k []).length ck)) wB) := ⟨_, _, rfl, hT.mono G2.size, hnb, hd.grow hB, grownBy_below G2 hB⟩
  generalize (names7.getD k []).length = nl at HE hconv
  generalize strOf (names7.getD k []) = sx at hcell hconv
  clear hT hB hd hg2 hblk HL HA hnb hnl G2 hx7 hx0
  go_wp2
  go_ret
  exact HE.out
end Go.Proofs.Ytenfnbnhdmkhkaa
/-
  What is drawn: once, and one number of several; no statement is proved here.
-/
namespace Go.Proofs.Ytenfnbnhdmkhkaa
open Go.RowKit
set_option linter.unusedVariables false
set_option linter.unusedSimpArgs false

theorem Below.cursor {w w1 w2 : World} (h : Below w.heap.size w w1) (hg : w1.grownBy w2 (some w.heap.size)) : Below w.heap.size w w2 := h.grown hg h.size (by intro k hk; simp at hk; omega)

set_option maxHeartbeats 400000 in
theorem l1Once_drw (g : Nat) (a : Option Addr) (cap : Nat) (cs : List Int) (n : Int) (w : World) (h : Drw w g a cap cs) (hn : n ≤ 9223372036854775807) :
    Calls Try.prog 24 #[.pointer (some ⟨g, 0, none⟩), .int .i64 n] w fun e w' => ∃ b : Bool, e = .returned (.bool b) ∧ Drw w' g a cap cs ∧ w.grownBy w' (some g) := by
  have HL := hide' (l1Below_drw g a cap cs n w h hn)
  clear h
  go_enter Try.func24, Try.ntmps24
  go_wp2_with fail
  refine HL.out.mono ?_
  rintro e w1 ⟨x, rfl, _, _, _, hd, hg⟩
  go_wp2
  go_ret
  exact ⟨_, rfl, hd, hg⟩

set_option maxHeartbeats 400000 in
theorem l1PickInt_drw (g b n lc : Nat) (a : Option Addr) (cap : Nat) (cs : List Int) (w : World) (h : Drw w g a cap cs) (hn : 0 < n) (hn2 : n ≤ 1000) (hbg : b ≠ g) (hb : b < w.heap.size) (hc : ∀ k, k < n → ∃ z : Int, w.cell? ⟨b, k, none⟩ = some (.int .i64 z)) :
    Calls Try.prog 50 #[.pointer (some ⟨g, 0, none⟩), .slice (some ⟨b, 0, none⟩) n lc] w fun e w' => ∃ z : Int, e = .returned (.int .i64 z) ∧ Drw w' g a cap cs ∧ w.grownBy w' (some g) := by
  have HL := hide' (l1Below_drw g a cap cs (n : Int) w h (by omega))
  clear h
  go_enter Try.func50, Try.ntmps50
  go_wp2_with fail
  refine HL.out.mono ?_
  rintro e w1 ⟨x, rfl, h0, h1, _, hd, hg⟩
  obtain ⟨k, rfl⟩ : ∃ k : Nat, x = k := ⟨x.toNat, by omega⟩
  have hk : k < n := by have := h1 (by omega); omega
  obtain ⟨z, hz⟩ := hc k hk
  have hz1 : w1.cell? ⟨b, k, none⟩ = some (.int .i64 z) := (World.cell?_of_block (hg.block b hb (by simp; omega))).trans hz
  have hk' : (k : Int) < (n : Int) := by omega
  clear h1 HL hc
  go_wp2
  go_ret
  exact ⟨_, rfl, hd, hg⟩
end Go.Proofs.Ytenfnbnhdmkhkaa
/-
  The draws' cursor on such a heap: nothing is made, and no block but the cursor's turns. No statement is proved here.
-/
namespace Go.Proofs.Ytenfnbnhdmkhkaa
open Go.RowKit
set_option linter.unusedVariables false
set_option linter.unusedSimpArgs false

/-- Nothing but the cursor's block has turned. -/
def Cus (g : Nat) (w w' : World) : Prop := w.grownBy w' (some g) ∧ w'.heap.size = w.heap.size

theorem Cus.trans {g : Nat} {w w1 w2 : World} (h : Cus g w w1) (k : Cus g w1 w2) : Cus g w w2 := ⟨grownBy_trans h.1 k.1, k.2.trans h.2⟩
theorem cus_one {w : World} {g : Nat} {a : Option Addr} {n cap i : Nat} {h : Int} (hh : w.heap[g]? = some (.cells #[.slice a n cap, .int .i64 i, .int .i64 h] 67 (0, 0))) (h' : Int) (m1 m2 : Nat) (hi : i ≤ n) :
    Cur (((w.setCell ⟨g, 2, none⟩ (.int .i64 h')).drewN m1).drewN m2) g a n cap ∧ Cus g w (((w.setCell ⟨g, 2, none⟩ (.int .i64 h')).drewN m1).drewN m2) := by
  have k := cur_one hh h' m1 m2 hi
  exact ⟨k.1, k.2, by show (w.setCell ⟨g, 2, none⟩ (.int .i64 h')).heap.size = _; simp [World.setCell]⟩
theorem cus_two {w : World} {g : Nat} {a : Option Addr} {n cap i : Nat} {h : Int} (hh : w.heap[g]? = some (.cells #[.slice a n cap, .int .i64 i, .int .i64 h] 67 (0, 0))) (h' : Int) (m : Nat) (hi : i < n) :
    Cur (((w.setCell ⟨g, 2, none⟩ (.int .i64 h')).drewN m).setCell ⟨g, 1, none⟩ (.int .i64 ((i : Int) + 1))) g a n cap ∧ Cus g w (((w.setCell ⟨g, 2, none⟩ (.int .i64 h')).drewN m).setCell ⟨g, 1, none⟩ (.int .i64 ((i : Int) + 1))) := by
  have k := cur_two hh h' m hi
  exact ⟨k.1, k.2, by simp [World.setCell, World.drewN]⟩

set_option maxHeartbeats 1600000 in
theorem l1Byte_cus (g : Nat) (a : Option Addr) (cap : Nat) (xs : List Int) (w : World) (ha : Seg w a xs) (hl : xs.length ≤ maxLen) (hC : Cur w g a xs.length cap) (hne : ∀ x, a = some x → xs ≠ [] → x.block ≠ g) :
    Calls Try.prog 53 #[.pointer (some ⟨g, 0, none⟩)] w fun e w' => ∃ x : Int, e = .returned (.int .i64 x) ∧ 0 ≤ x ∧ x ≤ 255 ∧ Cur w' g a xs.length cap ∧ Cus g w w' := by
  unfold maxLen at hl
  obtain ⟨i, h, hh, hi⟩ := hC
  have c0 : w.cell? ⟨g, 0, none⟩ = some (.slice a xs.length cap) := by rw [cell_of_row w g 0 _ 67 (0, 0) hh]; rfl
  have c1 : w.cell? ⟨g, 1, none⟩ = some (.int .i64 i) := by rw [cell_of_row w g 1 _ 67 (0, 0) hh]; rfl
  have c2 : w.cell? ⟨g, 2, none⟩ = some (.int .i64 h) := by rw [cell_of_row w g 2 _ 67 (0, 0) hh]; rfl
  have f1 : w.frozen? ⟨g, 1, none⟩ = false := frozen_of_row w g 1 _ 67 hh
  have f2 : w.frozen? ⟨g, 2, none⟩ = false := frozen_of_row w g 2 _ 67 hh
  generalize hn : xs.length = n at *
  have Hn : Hid (xs.length = n) := hn
  have Hh : Hid (w.heap[g]? = some (.cells #[.slice a n cap, .int .i64 i, .int .i64 h] 67 (0, 0))) := hh
  clear hn hh
  by_cases hlt : i < n
  · have hlt' : (i : Int) < (n : Int) := by omega
    obtain ⟨b, off, rfl, hc⟩ := ha.at (k := i) (by have := Hn.out; omega)
    have hbg : b ≠ g := hne _ rfl (by intro e; have := Hn.out; rw [e] at this; simp at this; omega)
    generalize xs.getD i 0 = c at hc
    have hcs : ∀ v, (w.setCell ⟨g, 2, none⟩ v).cell? ⟨b, off + i, none⟩ = some (.int .u8 c) := fun v => (World.cell?_of_block (Below.heap_setCell w ⟨g, 2, none⟩ v b hbg)).trans hc
    go_enter Try.func53, Try.ntmps53
    go_wp2
    go_quiet (fail)
    go_wp2
    go_quiet (fail)
    go_wp2
    go_quiet (fail)
    go_wp2
    go_ret
    exact ⟨_, rfl, (and_bound _ _ 255 (by omega) rfl).1, (and_bound _ _ 255 (by omega) rfl).2, cus_two Hh.out _ _ hlt⟩
  · have hlt' : ¬ (i : Int) < (n : Int) := by omega
    go_enter Try.func53, Try.ntmps53
    go_wp2
    go_quiet (fail)
    go_wp2
    go_quiet (fail)
    go_wp2
    go_ret
    exact ⟨_, rfl, (and_bound _ _ 255 (by omega) rfl).1, (and_bound _ _ 255 (by omega) rfl).2, cus_one Hh.out _ _ _ hi⟩

theorem l1Byte_dc (g : Nat) (a : Option Addr) (cap : Nat) (xs : List Int) (w : World) (h : Drw w g a cap xs) :
    Calls Try.prog 53 #[.pointer (some ⟨g, 0, none⟩)] w fun e w' => ∃ x : Int, e = .returned (.int .i64 x) ∧ 0 ≤ x ∧ x ≤ 255 ∧ Drw w' g a cap xs ∧ Cus g w w' := by
  refine (l1Byte_cus g a cap xs w h.1 h.2.1 h.2.2.1 h.2.2.2).mono ?_
  rintro e w1 ⟨x, rfl, h0, h1, hc, hg⟩
  exact ⟨x, rfl, h0, h1, ⟨h.1.away hg.1 (fun y hy he e => h.2.2.2 y hy he (by simpa using e.symm)), h.2.1, hc, h.2.2.2⟩, hg⟩

set_option maxHeartbeats 1600000 in
theorem l1Below_dc (g : Nat) (a : Option Addr) (cap : Nat) (xs : List Int) (n : Int) (w : World) (h : Drw w g a cap xs) (hn : n ≤ 9223372036854775807) :
    Calls Try.prog 38 #[.pointer (some ⟨g, 0, none⟩), .int .i64 n] w fun e w' => ∃ x : Int, e = .returned (.int .i64 x) ∧ 0 ≤ x ∧ (0 < n → x < n) ∧ (n ≤ 0 → x = 0) ∧ Drw w' g a cap xs ∧ Cus g w w' := by
  by_cases h0 : n ≤ 0
  · go_enter Try.func38, Try.ntmps38
    go_wp2
    go_ret
    exact ⟨0, rfl, by omega, by omega, fun _ => rfl, h, ⟨World.grownBy.refl _ _, rfl⟩⟩
  · have hp : 0 < n := by omega
    by_cases h1 : n ≤ 256
    · go_enter Try.func38, Try.ntmps38
      go_wp2_with fail
      refine (l1Byte_dc g a cap xs _ h).mono ?_
      rintro e w1 ⟨x, rfl, hx0, hx1, hd, hg⟩
      go_wp2
      go_ret
      exact ⟨_, rfl, Int.emod_nonneg _ (by omega), fun _ => Int.emod_lt_of_pos _ hp, by omega, hd, hg⟩
    · go_enter Try.func38, Try.ntmps38
      go_wp2_with fail
      refine (l1Byte_dc g a cap xs _ h).mono ?_
      rintro e w1 ⟨x1, rfl, hx0, hx1, hd1, hg1⟩
      go_wp2_with fail
      refine (l1Byte_dc g a cap xs _ hd1).mono ?_
      rintro e w2 ⟨x2, rfl, hy0, hy1, hd2, hg2⟩
      go_wp2_with fail
      refine (l1Byte_dc g a cap xs _ hd2).mono ?_
      rintro e w3 ⟨x3, rfl, hz0, hz1, hd3, hg3⟩
      go_wp2_with fail
      refine (l1Byte_dc g a cap xs _ hd3).mono ?_
      rintro e w4 ⟨x4, rfl, ht0, ht1, hd4, hg4⟩
      have G := ((hg1.trans hg2).trans hg3).trans hg4
      clear hg1 hg2 hg3 hg4 hd1 hd2 hd3
      go_wp2
      go_ret
      exact ⟨_, rfl, Int.emod_nonneg _ (by omega), fun _ => Int.emod_lt_of_pos _ hp, by omega, hd4, G⟩
set_option maxHeartbeats 400000 in
theorem l1Once_dc (g : Nat) (a : Option Addr) (cap : Nat) (cs : List Int) (n : Int) (w : World) (h : Drw w g a cap cs) (hn : n ≤ 9223372036854775807) :
    Calls Try.prog 24 #[.pointer (some ⟨g, 0, none⟩), .int .i64 n] w fun e w' => ∃ b : Bool, e = .returned (.bool b) ∧ Drw w' g a cap cs ∧ Cus g w w' := by
  have HL := hide' (l1Below_dc g a cap cs n w h hn)
  clear h
  go_enter Try.func24, Try.ntmps24
  go_wp2_with fail
  refine HL.out.mono ?_
  rintro e w1 ⟨x, rfl, _, _, _, hd, hg⟩
  go_wp2
  go_ret
  exact ⟨_, rfl, hd, hg⟩

set_option maxHeartbeats 400000 in
theorem l1PickInt_dc (g b n lc : Nat) (a : Option Addr) (cap : Nat) (cs : List Int) (w : World) (h : Drw w g a cap cs) (hn : 0 < n) (hn2 : n ≤ 1000) (hbg : b ≠ g) (hb : b < w.heap.size) (hc : ∀ k, k < n → ∃ z : Int, w.cell? ⟨b, k, none⟩ = some (.int .i64 z)) :
    Calls Try.prog 50 #[.pointer (some ⟨g, 0, none⟩), .slice (some ⟨b, 0, none⟩) n lc] w fun e w' => ∃ z : Int, e = .returned (.int .i64 z) ∧ Drw w' g a cap cs ∧ Cus g w w' := by
  have HL := hide' (l1Below_dc g a cap cs (n : Int) w h (by omega))
  clear h
  go_enter Try.func50, Try.ntmps50
  go_wp2_with fail
  refine HL.out.mono ?_
  rintro e w1 ⟨x, rfl, h0, h1, _, hd, hg⟩
  obtain ⟨k, rfl⟩ : ∃ k : Nat, x = k := ⟨x.toNat, by omega⟩
  have hk : k < n := by have := h1 (by omega); omega
  obtain ⟨z, hz⟩ := hc k hk
  have hz1 : w1.cell? ⟨b, k, none⟩ = some (.int .i64 z) := (World.cell?_of_block (hg.1.block b hb (by simp; omega))).trans hz
  have hk' : (k : Int) < (n : Int) := by omega
  clear h1 HL hc
  go_wp2
  go_ret
  exact ⟨_, rfl, hd, hg⟩

/-- Such a heap, and a cursor on it over a code that lies below it. -/
def Hs (B M : Nat) (rk : Nat → Nat) (w : World) (g : Nat) (a : Option Addr) (cap : Nat) (cs : List Int) : Prop := Hw B M rk w ∧ Drw w g a cap cs ∧ B ≤ g ∧ ∀ x, a = some x → cs ≠ [] → x.block < B

theorem Cur.type {w : World} {g : Nat} {a : Option Addr} {n cap : Nat} (h : Cur w g a n cap) {cur : Array Value} {T : TypeId} {fr : Nat × Nat} (hg : w.heap[g]? = some (.cells cur T fr)) : ¬ Row3 T := by
  obtain ⟨i, k, hh, _⟩ := h
  rw [hh] at hg
  simp only [Option.some.injEq, Obj.cells.injEq] at hg
  obtain ⟨_, rfl, _⟩ := hg
  intro h
  rcases h with h | h | h <;> exact absurd h (by decide)

theorem Cus.shp {w w' : World} {g : Nat} {a : Option Addr} {cap : Nat} {cs : List Int} (h : Drw w g a cap cs) (hc : Cus g w w') : Shp w w' := fun b cur T fr hT hb => by
  have hl := (Array.getElem?_eq_some_iff.1 hb).1
  have hne : b ≠ g := by rintro rfl; exact h.2.2.1.type hb hT
  exact ⟨cur, (hc.1.block b hl (by simpa using hne)).trans hb, rfl⟩

theorem Hs.cus {B M : Nat} {rk : Nat → Nat} {w w' : World} {g : Nat} {a : Option Addr} {cap : Nat} {cs : List Int} (h : Hs B M rk w g a cap cs) (hd : Drw w' g a cap cs) (hc : Cus g w w') : Hs B M rk w' g a cap cs := by
  refine ⟨h.1.step (hc.shp h.2.1) (Rks.refl _ _) fun b hb hbz => ?_, hd, h.2.2⟩
  by_cases he : b = g
  · subst he
    refine .inr fun cur T fr hh => ?_
    have := hd.2.2.1.type hh
    exact ⟨fun h => absurd (.inl h) this, fun h => absurd (.inr (.inl h)) this, fun h => absurd (.inr (.inr h)) this⟩
  · exact .inl ⟨by have := hc.2; omega, hc.1.block b (by have := hc.2; omega) (by simpa using he)⟩

/-- The cursor stands behind what leaves its block and the code as they were. -/
theorem Drw.keep {w w' : World} {g : Nat} {a : Option Addr} {cap : Nat} {cs : List Int} (h : Drw w g a cap cs) (h1 : w'.heap[g]? = w.heap[g]?) (h2 : ∀ x, a = some x → cs ≠ [] → w'.heap[x.block]? = w.heap[x.block]?) : Drw w' g a cap cs := by
  refine ⟨⟨h.1.1, ?_⟩, h.2.1, ?_, h.2.2.2⟩
  · rcases h.1.2 with h0 | ⟨b, off, rfl, hc⟩
    · exact .inl h0
    · by_cases he : cs = []
      · exact .inl he
      · exact .inr ⟨b, off, rfl, fun i hi => (World.cell?_of_block (a := ⟨b, off + i, none⟩) (h2 ⟨b, off, none⟩ rfl he)).trans (hc i hi)⟩
  · obtain ⟨i, k, hh, hi⟩ := h.2.2.1
    exact ⟨i, k, h1.trans hh, hi⟩

section
variable {B M : Nat} {rk : Nat → Nat} {w : World} {g : Nat} {a : Option Addr} {cap : Nat} {cs : List Int}

theorem Hs.lt (h : Hs B M rk w g a cap cs) : g < w.heap.size := h.2.1.lt
theorem Hs.base (h : Hs B M rk w g a cap cs) : B ≤ w.heap.size := by have := h.2.1.lt; have := h.2.2.1; omega

/-- What leaves all blocks below the heap's end but rows of the three types. -/
theorem Hs.on {rk' : Nat → Nat} {w' : World} (h : Hs B M rk w g a cap cs) (hw : Hw B M rk' w') (h1 : w'.heap[g]? = w.heap[g]?) (h2 : ∀ b, b < B → w'.heap[b]? = w.heap[b]?) : Hs B M rk' w' g a cap cs :=
  ⟨hw, h.2.1.keep h1 fun x hx he => h2 _ (h.2.2.2 x hx he), h.2.2⟩

theorem l1Below_hs (h : Hs B M rk w g a cap cs) (n : Int) (hn : n ≤ 9223372036854775807) :
    Calls Try.prog 38 #[.pointer (some ⟨g, 0, none⟩), .int .i64 n] w fun e w' => ∃ x : Int, e = .returned (.int .i64 x) ∧ 0 ≤ x ∧ (0 < n → x < n) ∧ (n ≤ 0 → x = 0) ∧ Hs B M rk w' g a cap cs ∧ Cus g w w' ∧ Shp w w' := by
  refine (l1Below_dc g a cap cs n w h.2.1 hn).mono ?_
  rintro e w' ⟨x, rfl, h0, h1, h2, hd, hc⟩
  exact ⟨x, rfl, h0, h1, h2, h.cus hd hc, hc, hc.shp h.2.1⟩
theorem l1Once_hs (h : Hs B M rk w g a cap cs) (n : Int) (hn : n ≤ 9223372036854775807) :
    Calls Try.prog 24 #[.pointer (some ⟨g, 0, none⟩), .int .i64 n] w fun e w' => ∃ b : Bool, e = .returned (.bool b) ∧ Hs B M rk w' g a cap cs ∧ Cus g w w' ∧ Shp w w' := by
  refine (l1Once_dc g a cap cs n w h.2.1 hn).mono ?_
  rintro e w' ⟨b, rfl, hd, hc⟩
  exact ⟨b, rfl, h.cus hd hc, hc, hc.shp h.2.1⟩
theorem l1PickInt_hs (h : Hs B M rk w g a cap cs) (b n lc : Nat) (hn : 0 < n) (hn2 : n ≤ 1000) (hbg : b ≠ g) (hb : b < w.heap.size) (hc : ∀ k, k < n → ∃ z : Int, w.cell? ⟨b, k, none⟩ = some (.int .i64 z)) :
    Calls Try.prog 50 #[.pointer (some ⟨g, 0, none⟩), .slice (some ⟨b, 0, none⟩) n lc] w fun e w' => ∃ z : Int, e = .returned (.int .i64 z) ∧ Hs B M rk w' g a cap cs ∧ Cus g w w' ∧ Shp w w' := by
  refine (l1PickInt_dc g b n lc a cap cs w h.2.1 hn hn2 hbg hb hc).mono ?_
  rintro e w' ⟨z, rfl, hd, hc⟩
  exact ⟨z, rfl, h.cus hd hc, hc, hc.shp h.2.1⟩
end
end Go.Proofs.Ytenfnbnhdmkhkaa
/-
  toValue of the laws at every depth.
-/
namespace Go.Proofs.Ytenfnbnhdmkhkaa
open Go.RowKit
set_option linter.unusedVariables false

theorem KOwn.nodup {w : World} {v : Value} {ks : List (List Int)} {B : List Nat} (h : KOwn w v ks B) : B.Nodup := by
  rcases h with ⟨_, _, rfl⟩ | ⟨_, _, _, _, _, _, _, _, _, _, _, _, hn⟩
  · simp
  · exact hn
theorem LOwn.nodup {w : World} {d : Nat} {x : Value} {l : List (Vl d)} {B : List Nat} (h : LOwn w d x l B) : B.Nodup := by
  rcases h with ⟨_, _, rfl⟩ | ⟨_, _, _, _, _, _, _, _, _, _, _, _, hn⟩
  · simp
  · exact hn

end Go.Proofs.Ytenfnbnhdmkhkaa
/-
  What a call that makes a value leaves; a block of five cells, read behind new blocks.
-/
namespace Go.Proofs.Ytenfnbnhdmkhkaa
open Go.RowKit
set_option linter.unusedVariables false
set_option linter.unusedSimpArgs false

/-- A block of five, read behind a new block. -/
theorem box_later {w : World} {g : Nat} {T : TypeId} {c0 c1 c2 c3 c4 : Value} (h : w.heap[g]? = some (.cells #[c0, c1, c2, c3, c4] T (0, 0))) :
    (∀ o, (w.alloc o).cell? ⟨g, 0, none⟩ = some c0) ∧ (∀ o, (w.alloc o).cell? ⟨g, 1, none⟩ = some c1) ∧ (∀ o, (w.alloc o).cell? ⟨g, 2, none⟩ = some c2) ∧ (∀ o, (w.alloc o).cell? ⟨g, 3, none⟩ = some c3) ∧ (∀ o, (w.alloc o).cell? ⟨g, 4, none⟩ = some c4) ∧ ∀ o j, (w.alloc o).frozen? ⟨g, j, none⟩ = false := by
  have hr : ∀ o, (w.alloc o).heap[g]? = some (.cells #[c0, c1, c2, c3, c4] T (0, 0)) := fun o => (Below.heap_alloc w o g (Array.getElem?_eq_some_iff.1 h).1).trans h
  exact ⟨fun o => (row5 (hr o)).1, fun o => (row5 (hr o)).2.1, fun o => (row5 (hr o)).2.2.1, fun o => (row5 (hr o)).2.2.2.1, fun o => (row5 (hr o)).2.2.2.2.1, fun o j => (row5 (hr o)).2.2.2.2.2 j⟩

/-- What valueOf leaves. -/
def ValEnd (d : Nat) (v : Vl d) (w : World) (e : Ending) (w' : World) : Prop :=
  ∃ u0 u1 u2 u3 u4, e = .returned (.agg #[u0, u1, u2, u3, u4]) ∧ ∃ B, VOwn w' d (u0, u1, u2, u3, u4) v B ∧ (∀ b ∈ B, w.heap.size ≤ b ∧ b < w'.heap.size) ∧ Below w.heap.size w w'

/-- .. and behind two. -/
theorem box_later2 {w : World} {g : Nat} {T : TypeId} {c0 c1 c2 c3 c4 : Value} (h : w.heap[g]? = some (.cells #[c0, c1, c2, c3, c4] T (0, 0))) :
    (∀ o o', ((w.alloc o).alloc o').cell? ⟨g, 0, none⟩ = some c0) ∧ (∀ o o', ((w.alloc o).alloc o').cell? ⟨g, 1, none⟩ = some c1) ∧ (∀ o o', ((w.alloc o).alloc o').cell? ⟨g, 2, none⟩ = some c2) ∧ (∀ o o', ((w.alloc o).alloc o').cell? ⟨g, 3, none⟩ = some c3) ∧ (∀ o o', ((w.alloc o).alloc o').cell? ⟨g, 4, none⟩ = some c4) ∧ ∀ o o' j, ((w.alloc o).alloc o').frozen? ⟨g, j, none⟩ = false := by
  have hr : ∀ o, (w.alloc o).heap[g]? = some (.cells #[c0, c1, c2, c3, c4] T (0, 0)) := fun o => (Below.heap_alloc w o g (Array.getElem?_eq_some_iff.1 h).1).trans h
  exact ⟨fun o => (box_later (hr o)).1, fun o => (box_later (hr o)).2.1, fun o => (box_later (hr o)).2.2.1, fun o => (box_later (hr o)).2.2.2.1, fun o => (box_later (hr o)).2.2.2.2.1, fun o => (box_later (hr o)).2.2.2.2.2⟩

end Go.Proofs.Ytenfnbnhdmkhkaa
/-
  A value that is being built, row by row, on such a heap. No statement is proved here.
-/
namespace Go.Proofs.Ytenfnbnhdmkhkaa
open Go.RowKit
set_option linter.unusedVariables false
set_option linter.unusedSimpArgs false

/-- Blocks below n but O are as they were; rows keep their shapes. -/
def Off (n O : Nat) (w w' : World) : Prop := (w'.os = w.os ∧ w'.tape = w.tape ∧ w'.output = w.output ∧ w.heap.size ≤ w'.heap.size) ∧ (∀ b, b < n → b ≠ O → w'.heap[b]? = w.heap[b]?) ∧ Shp w w'

theorem Off.grown {w1 w w' : World} {O : Nat} (h : Off w1.heap.size O w w') (hg : w1.grownBy w (some O)) : w1.grownBy w' (some O) :=
  ⟨h.1.1.trans hg.os, h.1.2.1.trans hg.tape, h.1.2.2.1.trans hg.output, Nat.le_trans hg.size h.1.2.2.2, fun b hb hne => (h.2.1 b hb (fun e => hne (by rw [e]))).trans (hg.block b hb hne)⟩

/-- A new block was made, whatever was drawn. -/
def Alw (w : World) (o : Obj) (w' : World) : Prop := w'.heap = (w.alloc o).heap ∧ w'.os = w.os ∧ w'.tape = w.tape ∧ w'.output = w.output

theorem Hw.heap {B M : Nat} {rk : Nat → Nat} {w w' : World} (h : Hw B M rk w) (e : w'.heap = w.heap) : Hw B M rk w' := by
  refine h.step (fun g cur T fr _ hg => ⟨cur, by rw [e]; exact hg, rfl⟩) (Rks.refl _ _) fun g hg hl => .inl ⟨by rw [e] at hl; exact hl, by rw [e]⟩
theorem Shp.heap {w w' : World} (e : w'.heap = w.heap) : Shp w w' := fun g cur T fr _ hg => ⟨cur, by rw [e]; exact hg, rfl⟩

/-- The block O of five cells has texts in the row K, values in the row L, both made since w1. -/
def SIy (B M : Nat) (rk1 : Nat → Nat) (r : Nat) (w1 : World) (O : Nat) (kd : Int) (m mL : Nat) (rk' : Nat → Nat) (wr : World) (pK : Option Addr) (cK : Nat) (pL : Option Addr) (cL : Nat) : Prop :=
  Hw B M rk' wr ∧ Rks rk1 rk' w1.heap.size ∧ Sli w1.heap.size M 22 1 (fun _ => True) wr (.slice pK m cK) ∧ Sli w1.heap.size M 26 5 (fun g => r ≤ rk' g ∧ rk' g < r + 1) wr (.slice pL mL cL) ∧
    wr.heap[O]? = some (.cells #[.int .i64 kd, .int .i64 0, .slice none 0 0, .slice pK m cK, .slice pL mL cL] 26 (0, 0)) ∧ w1.heap.size ≤ wr.heap.size

theorem Sli.base {B B' M s : Nat} {T : TypeId} {p q : Nat → Prop} {w : World} {v : Value} (h : Sli B M T s p w v) (hB : B' ≤ B) (hp : ∀ g, p g → q g) : Sli B' M T s q w v := by
  obtain ⟨a, n, cap, e, h1, h2, h3, h4 | ⟨g, cur, fr, ha, hg, hpg, r⟩⟩ := h
  · exact ⟨a, n, cap, e, h1, h2, h3, .inl h4⟩
  · exact ⟨a, n, cap, e, h1, h2, h3, .inr ⟨g, cur, fr, ha, by omega, hp g hpg, r⟩⟩

theorem news_one {w wa : World} {c0 : Value} (h : wa.heap = (w.alloc (.cells #[c0] 22)).heap) : ∀ (j : Nat) (u : Value), [c0][j]? = some u → wa.cell? ((⟨w.heap.size, 0, none⟩ : Addr).add j) = some u := by
  intro j u hu
  rw [Addr.add_lit, Nat.zero_add, cell_of_row wa w.heap.size j #[c0] 22 (0, 0) (by rw [h]; exact heap_alloc_new w _)]
  simpa using hu
theorem news_five {w wa : World} {c0 c1 c2 c3 c4 : Value} (h : wa.heap = (w.alloc (.cells #[c0, c1, c2, c3, c4] 26)).heap) : ∀ (j : Nat) (u : Value), [c0, c1, c2, c3, c4][j]? = some u → wa.cell? ((⟨w.heap.size, 0, none⟩ : Addr).add j) = some u := by
  intro j u hu
  rw [Addr.add_lit, Nat.zero_add, cell_of_row wa w.heap.size j #[c0, c1, c2, c3, c4] 26 (0, 0) (by rw [h]; exact heap_alloc_new w _)]
  simpa using hu

section
variable {B M : Nat} {rk1 rk' : Nat → Nat} {r : Nat} {w1 : World} {O : Nat} {kd : Int} {m mL : Nat} {wr wa : World} {pK : Option Addr} {cK : Nat} {pL : Option Addr} {cL : Nat}

/-- A text is appended. -/
theorem siy_k {u : Value} (h : SIy B M rk1 r w1 O kd m mL rk' wr pK cK pL cL) (hB : B ≤ O) (hO : O < w1.heap.size) (hrO : r < rk1 O) (hm : m < M) (hM : M ≤ 1000000) (hu : Sli B M 5 1 (fun _ => True) wr u) (hwa : Alw wr (.cells #[u] 22) wa) (ty : TypeId) :
    ∃ (g' cap' : Nat) (wb : World), (Builtin.append_ #[23, 23] ty #[.slice pK m cK, .slice (some ⟨wr.heap.size, 0, none⟩) 1 1]).run Try.prog wa = .ok (.slice (some ⟨g', 0, none⟩) (m + 1) cap') wb ∧
      wb.heap[O]? = some (.cells #[.int .i64 kd, .int .i64 0, .slice none 0 0, .slice pK m cK, .slice pL mL cL] 26 (0, 0)) ∧
      SIy B M rk1 r w1 O kd (m + 1) mL rk' (wb.setCell ⟨O, 3, none⟩ (.slice (some ⟨g', 0, none⟩) (m + 1) cap')) (some ⟨g', 0, none⟩) cap' pL cL ∧ Off w1.heap.size O wr (wb.setCell ⟨O, 3, none⟩ (.slice (some ⟨g', 0, none⟩) (m + 1) cap')) := by
  obtain ⟨h1, h2, h3, h4, h5, h6⟩ := h
  obtain ⟨e0, e1, e2, e3⟩ := hwa
  have hza : wa.heap.size = wr.heap.size + 1 := by rw [e0]; simp
  have hSa : Shp wr wa := (Shp.alloc wr _).trans (Shp.heap e0)
  have hHa : Hw B M rk' wa := (h1.alloc_k u hu).heap e0
  obtain ⟨g', cap', wb, hrun, hHb, hsl, hSb, hgb⟩ := run_append_hk wa ty w1.heap.size B M rk' pK m cK (h3.shp row3_k hSa fun _ _ h => h) hHa (by omega) (by omega) (by omega) u (hu.shp row3_b hSa fun _ _ h => h) ⟨wr.heap.size, 0, none⟩ 1 (news_one e0)
  have hKl := h3.lt
  have hpb : ∀ b, b < w1.heap.size → wb.heap[b]? = wr.heap[b]? := fun b hb => by
    refine (hgb.block b (by omega) fun e => ?_).trans ?_
    · cases pK with
      | none => simp [Value.ownBlock] at e
      | some x => simp [Value.ownBlock] at e; have := hKl x rfl; omega
    · rw [e0]; exact Below.heap_alloc _ _ _ (by omega)
  have hOb := (hpb O hO).trans h5
  have hzb := hgb.size
  have hSc := Shp.setCell wb O 3 (.slice (some ⟨g', 0, none⟩) (m + 1) cap')
  have hnew := hsl M (by omega)
  have hrk : rk' O = rk1 O := h2 O hO
  have hset : Hw B M rk' (wb.setCell ⟨O, 3, none⟩ (.slice (some ⟨g', 0, none⟩) (m + 1) cap')) :=
    hHb.set_v hB hOb 0 3 (by omega) _ fun c0 c1 c2 c3 c4 hG => ⟨hG.1, hG.2.1, hG.2.2.1, hnew.base (by omega) (fun _ h => h), hG.2.2.2.2⟩
  refine ⟨g', cap', wb, hrun, hOb, ⟨hset, h2, hnew.shp row3_k hSc fun _ _ h => h, h4.shp row3_v ((hSa.trans hSb).trans hSc) fun _ _ h => h, heap_setCell_same wb O 3 _ _ _ hOb, by simp [World.setCell]; omega⟩, ⟨?_, fun b hb hne => (Below.heap_setCell wb ⟨O, 3, none⟩ _ b hne).trans (hpb b hb), (hSa.trans hSb).trans hSc⟩⟩
  exact ⟨hgb.os.trans e1, hgb.tape.trans e2, hgb.output.trans e3, by simp [World.setCell]; omega⟩

/-- A value is appended. -/
theorem siy_v {c0 c1 c2 c3 c4 : Value} (h : SIy B M rk1 r w1 O kd m mL rk' wr pK cK pL cL) (hB : B ≤ O) (hO : O < w1.heap.size) (hrO : r < rk1 O) (hm : mL < M) (hM : M ≤ 1000000) (hu : Grp B M rk' r wr (c0, c1, c2, c3, c4)) (hwa : Alw wr (.cells #[c0, c1, c2, c3, c4] 26) wa) (ty : TypeId) :
    ∃ (g' cap' : Nat) (wb : World) (rk2 : Nat → Nat), (Builtin.append_ #[24, 24] ty #[.slice pL mL cL, .slice (some ⟨wr.heap.size, 0, none⟩) 1 1]).run Try.prog wa = .ok (.slice (some ⟨g', 0, none⟩) (mL + 1) cap') wb ∧
      wb.heap[O]? = some (.cells #[.int .i64 kd, .int .i64 0, .slice none 0 0, .slice pK m cK, .slice pL mL cL] 26 (0, 0)) ∧
      SIy B M rk1 r w1 O kd m (mL + 1) rk2 (wb.setCell ⟨O, 4, none⟩ (.slice (some ⟨g', 0, none⟩) (mL + 1) cap')) pK cK (some ⟨g', 0, none⟩) cap' ∧ Rks rk' rk2 wr.heap.size ∧ Off w1.heap.size O wr (wb.setCell ⟨O, 4, none⟩ (.slice (some ⟨g', 0, none⟩) (mL + 1) cap')) := by
  obtain ⟨h1, h2, h3, h4, h5, h6⟩ := h
  obtain ⟨e0, e1, e2, e3⟩ := hwa
  have hza : wa.heap.size = wr.heap.size + 1 := by rw [e0]; simp
  have hSa : Shp wr wa := (Shp.alloc wr _).trans (Shp.heap e0)
  have hRa : Rks rk' (rkUp rk' wr.heap.size r) wr.heap.size := rkUp_old _ _ _
  have hHa : Hw B M (rkUp rk' wr.heap.size r) wa := (h1.alloc_v r c0 c1 c2 c3 c4 hu).heap e0
  obtain ⟨g', cap', wb, rk2, hrun, hHb, hR2, hsl, hSb, hgb⟩ := run_append_hv wa ty w1.heap.size B M (rkUp rk' wr.heap.size r) r (r + 1) pL mL cL (h4.shp row3_v hSa fun g hg h => by rw [hRa g hg]; exact h) hHa (by omega) (by omega) (by omega) c0 c1 c2 c3 c4 (hu.shp hSa hRa (Nat.le_refl _)) (by omega) ⟨wr.heap.size, 0, none⟩ 1 (news_five e0)
  have hR : Rks rk' rk2 wr.heap.size := hRa.trans hR2 (by omega)
  have hLl := h4.lt
  have hpb : ∀ b, b < w1.heap.size → wb.heap[b]? = wr.heap[b]? := fun b hb => by
    refine (hgb.block b (by omega) fun e => ?_).trans ?_
    · cases pL with
      | none => simp [Value.ownBlock] at e
      | some x => simp [Value.ownBlock] at e; have := hLl x rfl; omega
    · rw [e0]; exact Below.heap_alloc _ _ _ (by omega)
  have hOb := (hpb O hO).trans h5
  have hzb := hgb.size
  have hSc := Shp.setCell wb O 4 (.slice (some ⟨g', 0, none⟩) (mL + 1) cap')
  have hnew := hsl M (by omega)
  have hrk : rk2 O = rk1 O := (hR O (by omega)).trans (h2 O hO)
  have hset : Hw B M rk2 (wb.setCell ⟨O, 4, none⟩ (.slice (some ⟨g', 0, none⟩) (mL + 1) cap')) :=
    hHb.set_v hB hOb 0 4 (by omega) _ fun c0 c1 c2 c3 c4 hG => ⟨hG.1, hG.2.1, hG.2.2.1, hG.2.2.2.1, hnew.base (by omega) (fun g h => by omega)⟩
  refine ⟨g', cap', wb, rk2, hrun, hOb, ⟨hset, fun g hg => (hR g (by omega)).trans (h2 g hg), h3.shp row3_k ((hSa.trans hSb).trans hSc) fun _ _ h => h, hnew.shp row3_v hSc fun _ _ h => h, heap_setCell_same wb O 4 _ _ _ hOb, by simp [World.setCell]; omega⟩, hR, ⟨?_, fun b hb hne => (Below.heap_setCell wb ⟨O, 4, none⟩ _ b hne).trans (hpb b hb), (hSa.trans hSb).trans hSc⟩⟩
  exact ⟨hgb.os.trans e1, hgb.tape.trans e2, hgb.output.trans e3, by simp [World.setCell]; omega⟩

/-- The four forms for the walk. -/
theorem wpList_set_k {u : Value} {ops : Array Oper} {rest : List Oper} {o : Oper} {a : Act} {Q : Exit → Act → World → Prop} (hgd : o.guard = none) (s x : Operand) (ho : o.op = .call { callee := .builtin .append, args := #[s, x], argTypes := #[23, 23] })
    (h : SIy B M rk1 r w1 O kd m mL rk' wr pK cK pL cL) (hs : a.eval s = .slice pK m cK) (hx : a.eval x = .slice (some ⟨wr.heap.size, 0, none⟩) 1 1) (hB : B ≤ O) (hO : O < w1.heap.size) (hrO : r < rk1 O) (hm : m < M) (hM : M ≤ 1000000) (hu : Sli B M 5 1 (fun _ => True) wr u) (hwa : Alw wr (.cells #[u] 22) wa)
    (hk : ∀ (g' cap' : Nat) (wb : World), wb.heap[O]? = some (.cells #[.int .i64 kd, .int .i64 0, .slice none 0 0, .slice pK m cK, .slice pL mL cL] 26 (0, 0)) → SIy B M rk1 r w1 O kd (m + 1) mL rk' (wb.setCell ⟨O, 3, none⟩ (.slice (some ⟨g', 0, none⟩) (m + 1) cap')) (some ⟨g', 0, none⟩) cap' pL cL → Off w1.heap.size O wr (wb.setCell ⟨O, 3, none⟩ (.slice (some ⟨g', 0, none⟩) (m + 1) cap')) →
      wpList Try.prog ops Q rest (a.put o.dst (.slice (some ⟨g', 0, none⟩) (m + 1) cap')) wb) : wpList Try.prog ops Q (o :: rest) a wa := by
  refine wpList_plain hgd fun K hK => ?_
  obtain ⟨g', cap', wb, hrun, r1, r2, r3⟩ := siy_k h hB hO hrO hm hM hu hwa o.type
  unfold Oper.wp execOp
  simp only [ho, resolve, invoke, builtin, Sem.run_bind, Sem.run_pure, Result.andThen_ok, List.map_toArray, List.map_cons, List.map_nil, hs, hx, hrun]
  exact hK _ _ (hk g' cap' wb r1 r2 r3)
theorem step_set_k {u : Value} {ops : Array Oper} {o : Oper} {a : Act} {K : Act → World → Prop} {Q : Exit → Act → World → Prop} {E : Prop} (hgd : o.guard = none) (s x : Operand) (ho : o.op = .call { callee := .builtin .append, args := #[s, x], argTypes := #[23, 23] })
    (h : SIy B M rk1 r w1 O kd m mL rk' wr pK cK pL cL) (hs : a.eval s = .slice pK m cK) (hx : a.eval x = .slice (some ⟨wr.heap.size, 0, none⟩) 1 1) (hB : B ≤ O) (hO : O < w1.heap.size) (hrO : r < rk1 O) (hm : m < M) (hM : M ≤ 1000000) (hu : Sli B M 5 1 (fun _ => True) wr u) (hwa : Alw wr (.cells #[u] 22) wa)
    (hk : ∀ (g' cap' : Nat) (wb : World), wb.heap[O]? = some (.cells #[.int .i64 kd, .int .i64 0, .slice none 0 0, .slice pK m cK, .slice pL mL cL] 26 (0, 0)) → SIy B M rk1 r w1 O kd (m + 1) mL rk' (wb.setCell ⟨O, 3, none⟩ (.slice (some ⟨g', 0, none⟩) (m + 1) cap')) (some ⟨g', 0, none⟩) cap' pL cL → Off w1.heap.size O wr (wb.setCell ⟨O, 3, none⟩ (.slice (some ⟨g', 0, none⟩) (m + 1) cap')) →
      K (a.put o.dst (.slice (some ⟨g', 0, none⟩) (m + 1) cap')) wb) : if Region.wanted o (yielded ops a.tmps) = true then Oper.wp Try.prog o a wa K Q else E := by
  have hw : Region.wanted o (yielded ops a.tmps) = true := by simp [Region.wanted, hgd]
  rw [if_pos hw]
  obtain ⟨g', cap', wb, hrun, r1, r2, r3⟩ := siy_k h hB hO hrO hm hM hu hwa o.type
  unfold Oper.wp
  simp [execOp, ho, resolve, invoke, builtin, hs, hx, hrun, Result.andThen]
  exact hk g' cap' wb r1 r2 r3
theorem wpList_set_v {c0 c1 c2 c3 c4 : Value} {ops : Array Oper} {rest : List Oper} {o : Oper} {a : Act} {Q : Exit → Act → World → Prop} (hgd : o.guard = none) (s x : Operand) (ho : o.op = .call { callee := .builtin .append, args := #[s, x], argTypes := #[24, 24] })
    (h : SIy B M rk1 r w1 O kd m mL rk' wr pK cK pL cL) (hs : a.eval s = .slice pL mL cL) (hx : a.eval x = .slice (some ⟨wr.heap.size, 0, none⟩) 1 1) (hB : B ≤ O) (hO : O < w1.heap.size) (hrO : r < rk1 O) (hm : mL < M) (hM : M ≤ 1000000) (hu : Grp B M rk' r wr (c0, c1, c2, c3, c4)) (hwa : Alw wr (.cells #[c0, c1, c2, c3, c4] 26) wa)
    (hk : ∀ (g' cap' : Nat) (wb : World) (rk2 : Nat → Nat), wb.heap[O]? = some (.cells #[.int .i64 kd, .int .i64 0, .slice none 0 0, .slice pK m cK, .slice pL mL cL] 26 (0, 0)) → SIy B M rk1 r w1 O kd m (mL + 1) rk2 (wb.setCell ⟨O, 4, none⟩ (.slice (some ⟨g', 0, none⟩) (mL + 1) cap')) pK cK (some ⟨g', 0, none⟩) cap' → Rks rk' rk2 wr.heap.size → Off w1.heap.size O wr (wb.setCell ⟨O, 4, none⟩ (.slice (some ⟨g', 0, none⟩) (mL + 1) cap')) →
      wpList Try.prog ops Q rest (a.put o.dst (.slice (some ⟨g', 0, none⟩) (mL + 1) cap')) wb) : wpList Try.prog ops Q (o :: rest) a wa := by
  refine wpList_plain hgd fun K hK => ?_
  obtain ⟨g', cap', wb, rk2, hrun, r1, r2, r3, r4⟩ := siy_v h hB hO hrO hm hM hu hwa o.type
  unfold Oper.wp execOp
  simp only [ho, resolve, invoke, builtin, Sem.run_bind, Sem.run_pure, Result.andThen_ok, List.map_toArray, List.map_cons, List.map_nil, hs, hx, hrun]
  exact hK _ _ (hk g' cap' wb rk2 r1 r2 r3 r4)
theorem step_set_v {c0 c1 c2 c3 c4 : Value} {ops : Array Oper} {o : Oper} {a : Act} {K : Act → World → Prop} {Q : Exit → Act → World → Prop} {E : Prop} (hgd : o.guard = none) (s x : Operand) (ho : o.op = .call { callee := .builtin .append, args := #[s, x], argTypes := #[24, 24] })
    (h : SIy B M rk1 r w1 O kd m mL rk' wr pK cK pL cL) (hs : a.eval s = .slice pL mL cL) (hx : a.eval x = .slice (some ⟨wr.heap.size, 0, none⟩) 1 1) (hB : B ≤ O) (hO : O < w1.heap.size) (hrO : r < rk1 O) (hm : mL < M) (hM : M ≤ 1000000) (hu : Grp B M rk' r wr (c0, c1, c2, c3, c4)) (hwa : Alw wr (.cells #[c0, c1, c2, c3, c4] 26) wa)
    (hk : ∀ (g' cap' : Nat) (wb : World) (rk2 : Nat → Nat), wb.heap[O]? = some (.cells #[.int .i64 kd, .int .i64 0, .slice none 0 0, .slice pK m cK, .slice pL mL cL] 26 (0, 0)) → SIy B M rk1 r w1 O kd m (mL + 1) rk2 (wb.setCell ⟨O, 4, none⟩ (.slice (some ⟨g', 0, none⟩) (mL + 1) cap')) pK cK (some ⟨g', 0, none⟩) cap' → Rks rk' rk2 wr.heap.size → Off w1.heap.size O wr (wb.setCell ⟨O, 4, none⟩ (.slice (some ⟨g', 0, none⟩) (mL + 1) cap')) →
      K (a.put o.dst (.slice (some ⟨g', 0, none⟩) (mL + 1) cap')) wb) : if Region.wanted o (yielded ops a.tmps) = true then Oper.wp Try.prog o a wa K Q else E := by
  have hw : Region.wanted o (yielded ops a.tmps) = true := by simp [Region.wanted, hgd]
  rw [if_pos hw]
  obtain ⟨g', cap', wb, rk2, hrun, r1, r2, r3, r4⟩ := siy_v h hB hO hrO hm hM hu hwa o.type
  unfold Oper.wp
  simp [execOp, ho, resolve, invoke, builtin, hs, hx, hrun, Result.andThen]
  exact hk g' cap' wb rk2 r1 r2 r3 r4
end
end Go.Proofs.Ytenfnbnhdmkhkaa
