/-
  Texts that a law leans on, one behind the other; no statement is proved here.
-/
import Derived.Test.YtngjhimieacjhaaGreatDoorPk0
import Derived.Test.YtngjhimieacjhaaGreatDoorPk1
import Derived.Lib.AppendStr
import Derived.Lib.AtoiAll
import Derived.Lib.SlTrimSet
import Derived.WalkSmall
import Derived.Test.YtngjhimieacjhaaGreatDoorRows
import Derived.Stop.LaidErr
import Derived.MakeChecks
/-
  strconv.AppendInt at a small number: its digits behind what is there.
-/
namespace Go.Proofs.YtngjhimieacjhaaGreatDoor
open Go.RowKit
set_option linter.unusedVariables false

theorem byteCells_decI (u : Nat) : Lib.byteCells (Lib.decDigits u) = cellsOf (decI u) := by
  unfold Lib.byteCells cellsOf decI
  rw [List.map_map]
  rfl
theorem length_decI (u : Nat) : (Lib.decDigits u).length = (decI u).length := by simp [decI]

set_option maxHeartbeats 800000 in
theorem AppendInt_kept (B u : Nat) (sv : Value) (xs : List Int) (w : World) (hu : u < 100) (hB : Bts w B sv xs) (hBw : B ≤ w.heap.size) (hl : xs.length ≤ 2097152) :
    Calls Tryz.prog 127 #[sv, .int .i64 u, .int .i64 10] w fun e w' => ∃ v, e = .returned v ∧ Bts w' B v (xs ++ decI u) ∧ Below B w w' ∧ Lib.OthersKept 5 none w w' := by
  have HU := hide' (Tryz.internal_strconv_AppendUint_10_small B xs.length u hu sv (cellsOf xs) w hB.2 hBw (by omega))
  have HF : Hid (∀ v' w', w'.ownsRow B 5 1 v' (xs.length + (Lib.decDigits u).length) (cellsOf xs ++ Lib.byteCells (Lib.decDigits u)) → Bts w' B v' (xs ++ decI u)) := by
    intro v' w' h
    refine ⟨?_, ?_⟩
    · intro z hz
      rcases List.mem_append.1 hz with h1 | h1
      · exact hB.1 z h1
      · exact decI_byt u z h1
    · rw [byteCells_decI, length_decI, ← cellsOf_append] at h
      rw [List.length_append]
      exact h
  have h0 : ¬ (u : Int) < 0 := by omega
  have HI : Hid (Calls Tryz.prog 171 #[sv, .int .i64 u, .int .i64 10] w fun e w' => ∃ v, e = .returned v ∧ Bts w' B v (xs ++ decI u) ∧ Below B w w' ∧ Lib.OthersKept 5 none w w') := by
    show Calls _ _ _ _ _
    clear hB
    go_enter Tryz.func171, Tryz.ntmps171
    go_wp2_with fail
    refine HU.out.mono ?_
    rintro e w1 ⟨v1, rfl, ho, hb, hk⟩
    have HB := hide' (HF.out _ _ ho)
    clear ho
    go_wp2
    go_ret
    exact ⟨_, rfl, HB.out, hb, hk⟩
  clear hB HU HF
  go_enter Tryz.func127, Tryz.ntmps127
  go_wp2_with fail
  refine HI.out.mono ?_
  rintro e w1 ⟨v1, rfl, hB1, hb, hk⟩
  go_wp2
  go_ret
  exact ⟨_, rfl, hB1, hb, hk⟩

theorem AppendInt_small (B u : Nat) (sv : Value) (xs : List Int) (w : World) (hu : u < 100) (hB : Bts w B sv xs) (hBw : B ≤ w.heap.size) (hl : xs.length ≤ 2097152) :
    Calls Tryz.prog 127 #[sv, .int .i64 u, .int .i64 10] w fun e w' => ∃ v, e = .returned v ∧ Bts w' B v (xs ++ decI u) ∧ Below B w w' :=
  (AppendInt_kept B u sv xs w hu hB hBw hl).mono fun e w' ⟨v, h1, h2, h3, _⟩ => ⟨v, h1, h2, h3⟩
end Go.Proofs.YtngjhimieacjhaaGreatDoor
/-
  AddrItem of the program and of the specification: a name with a number.
-/
namespace Go.Proofs.YtngjhimieacjhaaGreatDoor
open Go.RowKit
set_option linter.unusedVariables false

/-- What AddrItem answers. -/
def addrItem (xs : List Int) (n : Int) : List Int := if nameB xs = true ∧ 0 ≤ n ∧ n ≤ 99 then xs ++ [91] ++ decI n.toNat ++ [93] else []
theorem addrItem_no (xs : List Int) (n : Int) (h : ¬ (nameB xs = true ∧ 0 ≤ n ∧ n ≤ 99)) : addrItem xs n = [] := if_neg h
theorem addrItem_yes (xs : List Int) (u : Nat) (h1 : nameB xs = true) (h2 : u ≤ 99) : addrItem xs u = xs ++ [91] ++ decI u ++ [93] := by
  unfold addrItem
  rw [if_pos ⟨h1, by omega, by omega⟩]
  simp
theorem addrItem_len (xs : List Int) (n : Int) : (addrItem xs n).length ≤ 12 := by
  unfold addrItem
  split
  · rename_i h
    have h1 := nameB_le h.1
    have h2 := decI_two (u := n.toNat) (by omega)
    simp; omega
  · simp

set_option maxHeartbeats 800000 in
theorem impl_AddrItem_any (a : Option Addr) (c1 : Nat) (xs : List Int) (n : Int) (w : World) (ha : Seg w a xs) (ka : a = none → c1 = 0) (hl : xs.length ≤ maxLen) :
    Calls Tryz.prog 101 #[.slice a xs.length c1, .int .i64 n] w fun e w' => ∃ v, e = .returned v ∧ Bts w' w.heap.size v (addrItem xs n) ∧ Below w.heap.size w w' := by
  have HA := hide' (impl_NameOk_any a c1 xs w ha hl)
  by_cases h1 : nameB xs = true
  · rw [h1] at HA
    by_cases h2 : n < 0
    · have Hp : Hid (addrItem xs n = []) := addrItem_no xs n fun h => by omega
      go_enter Tryz.func101, Tryz.ntmps101
      go_wp2_with fail
      refine HA.out.mono ?_
      rintro e w1 ⟨rfl, rfl⟩
      go_wp2
      go_ret
      exact ⟨_, rfl, by rw [Hp.out]; exact bts_nil _ _, Below.refl _ _⟩
    · by_cases h3 : 99 < n
      · have Hp : Hid (addrItem xs n = []) := addrItem_no xs n fun h => by omega
        go_enter Tryz.func101, Tryz.ntmps101
        go_wp2_with fail
        refine HA.out.mono ?_
        rintro e w1 ⟨rfl, rfl⟩
        go_wp2
        go_ret
        exact ⟨_, rfl, by rw [Hp.out]; exact bts_nil _ _, Below.refl _ _⟩
      · obtain ⟨u, rfl⟩ : ∃ u : Nat, n = u := ⟨n.toNat, by omega⟩
        have hu : u ≤ 99 := by omega
        have hd2 := decI_two (u := u) (by omega)
        have HN := hide' (nameAlone_any a c1 xs w ha ka hl)
        have hnc : nameC xs = xs := by simp [nameC, h1]
        rw [hnc] at HN
        have hl8 := (nameB_le h1).2
        have Hp : Hid (addrItem xs u = xs ++ [91] ++ decI u ++ [93]) := addrItem_yes xs u h1 hu
        have HI : Hid (∀ (v : Value) (w1 : World), Bts w1 w.heap.size v (xs ++ [91]) → w.heap.size ≤ w1.heap.size → Calls Tryz.prog 127 #[v, .int .i64 u, .int .i64 10] w1 fun e w' => ∃ v', e = .returned v' ∧ Bts w' w.heap.size v' (xs ++ [91] ++ decI u) ∧ Below w.heap.size w1 w') := fun v w1 hv hz => AppendInt_small w.heap.size u v (xs ++ [91]) w1 (by omega) hv hz (by simp; omega)
        go_enter Tryz.func101, Tryz.ntmps101
        go_wp2_with fail
        refine HA.out.mono ?_
        rintro e w1 ⟨rfl, rfl⟩
        go_wp2_with fail
        refine HN.out.mono ?_
        rintro e w2 ⟨v2, rfl, hv2, hB2⟩
        have hz2 := hB2.size
        have hA2 := hv2.alloc (.cells #[.int .u8 91] 5)
        have hS2 := seg_one w2 91 (by simp [Byt])
        have hB2a := hB2.alloc hz2 (.cells #[.int .u8 91] 5)
        go_wp2_with (at_builtin; refine wpList_append_seg rfl (.tmp 18) (.tmp 19) (by rfl) w.heap.size v2 xs [91] (by rfl) hA2 _ 1 1 rfl (by rfl) hS2 (by simp) (by simp; omega) (by simp; omega) ?_; intro v3 w3 hv3 hg3; have hB3 := hB2a.grown hg3 (by simp; omega) hA2.own; have hz3 := hB3.size; clear hv2 hA2 hB2 hB2a hS2 hg3)
        refine (HI.out _ _ hv3 hz3).mono ?_
        rintro e w4 ⟨v4, rfl, hv4, b4⟩
        have hB4 := hB3.trans b4
        have hz4 := hB4.size
        have hA4 := hv4.alloc (.cells #[.int .u8 93] 5)
        have hS4 := seg_one w4 93 (by simp [Byt])
        have hB4a := hB4.alloc hz4 (.cells #[.int .u8 93] 5)
        clear hv3 hB3 b4
        go_wp2_with (at_builtin; refine wpList_append_seg rfl (.tmp 23) (.tmp 24) (by rfl) w.heap.size v4 (xs ++ [91] ++ decI u) [93] (by rfl) hA4 _ 1 1 rfl (by rfl) hS4 (by simp) (by simp; omega) (by simp; omega) ?_; intro v6 w6 hv6 hg6; have hB6 := hB4a.grown hg6 (by simp; omega) hA4.own; clear hv4 hA4 hB4 hB4a hS4 hg6)
        go_ret
        exact ⟨_, rfl, by rw [Hp.out]; exact hv6, hB6⟩
  · have h1' : nameB xs = false := by simpa using h1
    rw [h1'] at HA
    have Hp : Hid (addrItem xs n = []) := addrItem_no xs n fun h => h1 h.1
    go_enter Tryz.func101, Tryz.ntmps101
    go_wp2_with fail
    refine HA.out.mono ?_
    rintro e w1 ⟨rfl, rfl⟩
    go_wp2
    go_ret
    exact ⟨_, rfl, by rw [Hp.out]; exact bts_nil _ _, Below.refl _ _⟩

end Go.Proofs.YtngjhimieacjhaaGreatDoor
/-
  A string of bytes as cells; 'append(out, s...)' of a string.
-/
namespace Go.Proofs.YtngjhimieacjhaaGreatDoor
open Go.RowKit
set_option linter.unusedVariables false

theorem strCells_of {xs : List Int} (h : ∀ x ∈ xs, Byt x) : Lib.strCells (strOf xs) = cellsOf xs := by
  show (u8s xs).map (fun b => Value.int .u8 (b.toNat : Int)) = _
  unfold u8s cellsOf
  rw [List.map_map]
  refine List.map_congr_left fun x hx => ?_
  have hb := h x hx
  unfold Byt at hb
  simp
  omega

theorem size_strOf (xs : List Int) : (strOf xs).size = xs.length := by simp [strOf, ByteArray.size]

/-- 'append(out, s...)', out nil or the call's own, s a string: what is owned grows by the bytes of s. -/
theorem wpList_append_text {w : World} {ops : Array Oper} {rest : List Oper} {o : Oper} {a : Act} {Q : Exit → Act → World → Prop} (hgd : o.guard = none) (s x : Operand) (t : TypeId)
    (ho : o.op = .call { callee := .builtin .append, args := #[s, x], argTypes := #[22, t] }) (ht : Tryz.prog.underlying t = some .string)
    (base : Nat) (v : Value) (xs ys : List Int) (hs : a.eval s = v) (hB : Bts w base v xs) (sx : ByteArray) (hsx : sx = strOf ys) (hy : ∀ y ∈ ys, Byt y) (hx : a.eval x = .string sx)
    (hlen : xs.length + ys.length ≤ 1099511627776) (hbase : base ≤ w.heap.size)
    (h : ∀ v' w', Bts w' base v' (xs ++ ys) → w.grownBy w' v.ownBlock → wpList Tryz.prog ops Q rest (a.put o.dst v') w') : wpList Tryz.prog ops Q (o :: rest) a w := by
  obtain ⟨i0, hi, hz0, hz1, hz2⟩ := info_parts info5
  subst hsx
  have hsz := size_strOf ys
  refine Lib.wpList_append_own_string w hgd s x 22 t ho base 5 i0 Tryz.underlying22 ht hi hz0 hz1 hz2 v xs.length (cellsOf xs) hs hB.2 (strOf ys) hx (by unfold maxLen; omega) (by omega) hbase ?_
  intro v' w' hown hg _
  refine h v' w' ⟨?_, ?_⟩ hg
  · intro z hz
    rcases List.mem_append.1 hz with h1 | h1
    · exact hB.1 z h1
    · exact hy z h1
  · rw [strCells_of hy, hsz, ← cellsOf_append] at hown
    rw [List.length_append]
    exact hown

end Go.Proofs.YtngjhimieacjhaaGreatDoor
/-
  AddrKey of the program: a name with a key.
-/
namespace Go.Proofs.YtngjhimieacjhaaGreatDoor
open Go.RowKit
set_option linter.unusedVariables false

/-- What AddrKey answers. -/
def addrKey (xs ts : List Int) : List Int := if nameB xs = true ∧ nameB ts = true then xs ++ [91, 34] ++ ts ++ [34, 93] else []
theorem addrKey_no (xs ts : List Int) (h : ¬ (nameB xs = true ∧ nameB ts = true)) : addrKey xs ts = [] := if_neg h
theorem addrKey_yes (xs ts : List Int) (h1 : nameB xs = true) (h2 : nameB ts = true) : addrKey xs ts = xs ++ [91, 34] ++ ts ++ [34, 93] := if_pos ⟨h1, h2⟩
theorem addrKey_len (xs ts : List Int) : (addrKey xs ts).length ≤ 20 := by
  unfold addrKey
  split
  · rename_i h
    have h1 := nameB_le h.1
    have h2 := nameB_le h.2
    simp; omega
  · simp

theorem byt_open : ∀ y ∈ ([91, 34] : List Int), Byt y := by simp [Byt]
theorem byt_shut : ∀ y ∈ ([34, 93] : List Int), Byt y := by simp [Byt]
theorem str_open : (⟨#[91, 34]⟩ : ByteArray) = strOf [91, 34] := rfl
theorem str_shut : (⟨#[34, 93]⟩ : ByteArray) = strOf [34, 93] := rfl

set_option maxHeartbeats 800000 in
theorem impl_AddrKey_any (a b : Option Addr) (c1 c2 : Nat) (xs ts : List Int) (w : World) (ha : Seg w a xs) (hb : Seg w b ts) (ka : a = none → c1 = 0) (kb : b = none → c2 = 0) (hl : xs.length ≤ 2097152) (hl2 : ts.length ≤ 2097152) :
    Calls Tryz.prog 102 #[.slice a xs.length c1, .slice b ts.length c2] w fun e w' => ∃ v, e = .returned v ∧ Bts w' w.heap.size v (addrKey xs ts) ∧ Below w.heap.size w w' := by
  have HA := hide' (impl_NameOk_any a c1 xs w ha (by unfold maxLen; omega))
  have HB := hide' (impl_NameOk_any b c2 ts w hb (by unfold maxLen; omega))
  by_cases h1 : nameB xs = true
  · rw [h1] at HA
    by_cases h2 : nameB ts = true
    · rw [h2] at HB
      have HN := hide' (nameAlone_any a c1 xs w ha ka (by unfold maxLen; omega))
      have hnc : nameC xs = xs := by simp [nameC, h1]
      rw [hnc] at HN
      have Hp : Hid (addrKey xs ts = xs ++ [91, 34] ++ ts ++ [34, 93]) := addrKey_yes xs ts h1 h2
      generalize hn : xs.length = n at *
      have Hn : Hid (n = xs.length) := hn.symm
      clear hn
      generalize hm : ts.length = m at *
      have Hm : Hid (m = ts.length) := hm.symm
      clear hm
      go_enter Tryz.func102, Tryz.ntmps102
      go_wp2_with fail
      refine HA.out.mono ?_
      rintro e w1 ⟨rfl, rfl⟩
      go_wp2_with fail
      refine HB.out.mono ?_
      rintro e w1 ⟨rfl, rfl⟩
      go_wp2_with fail
      refine HN.out.mono ?_
      rintro e w1 ⟨v2, rfl, hv2, hB2⟩
      have hz2 := hB2.size
      go_wp2_with (at_builtin; first
        | (refine wpList_append_text rfl (.tmp 15) _ 9 (by rfl) Tryz.underlying9 w.heap.size v2 xs [91, 34] (by rfl) hv2 _ str_open byt_open (by rfl) (by simp; have := Hn.out; omega) hz2 ?_; intro v3 w3 hv3 hg3; have hB3 := hB2.grown hg3 hz2 hv2.own; have hT3 := hb.grow hB3; have hz3 := hB3.size; clear hv2 hB2 hg3)
        | (refine wpList_append_seg rfl (.tmp 17) (.tmp 18) (by rfl) w.heap.size v3 (xs ++ [91, 34]) ts (by rfl) hv3 b m c2 Hm.out (by rfl) hT3 kb (by simp; have := Hn.out; have := Hm.out; omega) hz3 ?_; intro v4 w4 hv4 hg4; have hB4 := hB3.grown hg4 hz3 hv3.own; have hz4 := hB4.size; clear hv3 hB3 hT3 hg4)
        | (refine wpList_append_text rfl (.tmp 19) _ 9 (by rfl) Tryz.underlying9 w.heap.size v4 (xs ++ [91, 34] ++ ts) [34, 93] (by rfl) hv4 _ str_shut byt_shut (by rfl) (by simp; have := Hn.out; have := Hm.out; omega) hz4 ?_; intro v5 w5 hv5 hg5; have hB5 := hB4.grown hg5 hz4 hv4.own; clear hv4 hB4 hg5))
      go_ret
      exact ⟨_, rfl, by rw [Hp.out]; exact hv5, hB5⟩
    · have h2' : nameB ts = false := by simpa using h2
      rw [h2'] at HB
      have Hp : Hid (addrKey xs ts = []) := addrKey_no xs ts fun h => h2 h.2
      go_enter Tryz.func102, Tryz.ntmps102
      go_wp2_with fail
      refine HA.out.mono ?_
      rintro e w1 ⟨rfl, rfl⟩
      go_wp2_with fail
      refine HB.out.mono ?_
      rintro e w1 ⟨rfl, rfl⟩
      go_wp2
      go_ret
      exact ⟨_, rfl, by rw [Hp.out]; exact bts_nil _ _, Below.refl _ _⟩
  · have h1' : nameB xs = false := by simpa using h1
    rw [h1'] at HA
    have Hp : Hid (addrKey xs ts = []) := addrKey_no xs ts fun h => h1 h.1
    go_enter Tryz.func102, Tryz.ntmps102
    go_wp2_with fail
    refine HA.out.mono ?_
    rintro e w1 ⟨rfl, rfl⟩
    go_wp2
    go_ret
    exact ⟨_, rfl, by rw [Hp.out]; exact bts_nil _ _, Below.refl _ _⟩

end Go.Proofs.YtngjhimieacjhaaGreatDoor
/-
  Addresses as lists of bytes: what is one, and its first name; that the program's way of asking (read loosely, written anew, held against it) asks the same.
-/
namespace Go.Proofs.YtngjhimieacjhaaGreatDoor
open Go.RowKit
set_option linter.unusedVariables false
set_option linter.unusedSimpArgs false

/-- Where the first bracket stands; behind all, if there is none. -/
def cutI (xs : List Int) : Nat := xs.findIdx (fun c => decide (c = 91))
theorem cutI_le (xs : List Int) : cutI xs ≤ xs.length := List.findIdx_le_length
theorem cutI_eq {xs : List Int} {k : Nat} (h : ∀ i, i < k → xs.getD i 0 ≠ 91) (hk : k = xs.length ∨ (k < xs.length ∧ xs.getD k 0 = 91)) : cutI xs = k := by
  rcases hk with rfl | ⟨h1, h2⟩
  · refine List.findIdx_eq_length.2 fun x hx => ?_
    obtain ⟨i, hi, rfl⟩ := List.getElem_of_mem hx
    have := h i hi
    simpa [List.getD_eq_getElem?_getD, hi] using this
  · refine (List.findIdx_eq h1).2 ⟨?_, fun j hj => ?_⟩
    · simpa [List.getD_eq_getElem?_getD, h1] using h2
    · have := h j hj
      simpa [List.getD_eq_getElem?_getD, Nat.lt_trans hj h1] using this
theorem cutI_split {xs : List Int} (h : cutI xs < xs.length) : xs = xs.take (cutI xs) ++ 91 :: xs.drop (cutI xs + 1) := by
  have h1 := ((List.findIdx_eq h).1 rfl).1
  have h2 : xs[cutI xs] = 91 := by simpa using h1
  conv => lhs; rw [← List.take_append_drop (cutI xs) xs]
  rw [List.drop_eq_getElem_cons h, h2]

/-- A digit. -/
def digB (c : Int) : Bool := decide (48 ≤ c) && decide (c ≤ 57)
/-- What stands between the brackets. -/
def innB (ys : List Int) : Bool :=
  if ys.getD 0 0 = 34 then decide (3 ≤ ys.length) && decide (ys.getD (ys.length - 1) 0 = 34) && nameB ((ys.drop 1).take (ys.length - 2))
  else decide (ys.length ≤ 2) && !(decide (ys.length = 2) && decide (ys.getD 0 0 = 48)) && ys.all digB
/-- What stands behind the first bracket. -/
def innR (r : List Int) : Bool := decide (2 ≤ r.length) && decide (r.getD (r.length - 1) 0 = 93) && innB (r.take (r.length - 1))
/-- An address. -/
def addrB (xs : List Int) : Bool := nameB (xs.take (cutI xs)) && (decide (cutI xs = xs.length) || innR (xs.drop (cutI xs + 1)))
/-- Its first name; nothing if it is none. -/
def addrN (xs : List Int) : List Int := if addrB xs = true then xs.take (cutI xs) else []

theorem snoc_of {l : List Int} {c : Int} (h : 0 < l.length) (hc : l.getD (l.length - 1) 0 = c) : l = l.take (l.length - 1) ++ [c] := by
  conv => lhs; rw [← List.take_append_drop (l.length - 1) l]
  congr 1
  have h1 : l.length - 1 < l.length := by omega
  rw [List.drop_eq_getElem_cons h1]
  have h2 : l[l.length - 1] = c := by simpa [List.getD_eq_getElem?_getD, h1] using hc
  rw [h2, List.drop_eq_nil_of_le (by omega)]

theorem innB_iff (ys : List Int) (h0 : 0 < ys.length) : innB ys = true ↔ (∃ u, u ≤ 99 ∧ ys = decI u) ∨ ∃ k, nameB k = true ∧ ys = 34 :: (k ++ [34]) := by
  constructor
  · intro h
    unfold innB at h
    by_cases hq : ys.getD 0 0 = 34
    · rw [if_pos hq] at h
      simp only [Bool.and_eq_true, decide_eq_true_eq] at h
      obtain ⟨⟨h1, h2⟩, h3⟩ := h
      refine .inr ⟨_, h3, ?_⟩
      cases ys with
      | nil => simp at h0
      | cons y t =>
        simp only [List.getD_cons_zero] at hq
        subst hq
        congr 1
        have ht : 0 < t.length := by simp at h1; omega
        have he : (34 :: t).getD ((34 :: t).length - 1) 0 = t.getD (t.length - 1) 0 := by
          simp only [List.length_cons, Nat.add_sub_cancel]
          obtain ⟨m, hm⟩ : ∃ m, t.length = m + 1 := ⟨t.length - 1, by omega⟩
          rw [hm]
          simp
        rw [he] at h2
        have := snoc_of ht h2
        simpa using this
    · rw [if_neg hq] at h
      simp only [Bool.and_eq_true, decide_eq_true_eq, Bool.not_eq_true', Bool.and_eq_false_imp, decide_eq_false_iff_not] at h
      obtain ⟨⟨h1, h2⟩, h3⟩ := h
      match ys, h0, h1, h2, h3 with
      | [c], _, _, _, h3 =>
        simp [digB] at h3
        refine .inl ⟨(c - 48).toNat, by omega, ?_⟩
        rw [decI_small (by omega)]
        simp
        omega
      | [c, d], _, _, h2, h3 =>
        simp [digB] at h2 h3
        have hu : ¬ ((c - 48) * 10 + (d - 48)).toNat < 10 := by omega
        refine .inl ⟨((c - 48) * 10 + (d - 48)).toNat, by omega, ?_⟩
        rw [decI_big hu, decI_small (by omega)]
        simp
        omega
      | _ :: _ :: _ :: _, _, h1, _, _ => simp at h1
  · rintro (⟨u, hu, rfl⟩ | ⟨k, hk, rfl⟩)
    · by_cases h : u < 10
      · rw [decI_small h]
        unfold innB
        rw [if_neg (by simp; omega)]
        simp [digB]
        omega
      · rw [decI_big h, decI_small (by omega)]
        unfold innB
        rw [if_neg (by simp; omega)]
        simp [digB]
        omega
    · have hl := nameB_le hk
      unfold innB
      rw [if_pos (by simp)]
      have e1 : (34 :: (k ++ [34])).length = k.length + 2 := by simp
      simp only [e1, Bool.and_eq_true, decide_eq_true_eq]
      refine ⟨⟨by omega, ?_⟩, ?_⟩
      · have : k.length + 2 - 1 = (34 :: k).length := by simp
        rw [this, ← List.cons_append]
        simp [List.getD_eq_getElem?_getD]
      · have : ((34 :: (k ++ [34])).drop 1).take (k.length + 2 - 2) = k := by simp
        rw [this]; exact hk

theorem innR_iff (r : List Int) : innR r = true ↔ (∃ u, u ≤ 99 ∧ r = decI u ++ [93]) ∨ ∃ k, nameB k = true ∧ r = 34 :: (k ++ [34, 93]) := by
  constructor
  · intro h
    simp only [innR, Bool.and_eq_true, decide_eq_true_eq] at h
    obtain ⟨⟨h1, h2⟩, h3⟩ := h
    have hs := snoc_of (by omega) h2
    rcases (innB_iff _ (by simp; omega)).1 h3 with ⟨u, hu, e⟩ | ⟨k, hk, e⟩
    · exact .inl ⟨u, hu, by rw [← e]; exact hs⟩
    · refine .inr ⟨k, hk, ?_⟩
      rw [e] at hs
      simpa using hs
  · intro h
    have : ∃ ys, 0 < ys.length ∧ r = ys ++ [93] ∧ innB ys = true := by
      rcases h with ⟨u, hu, rfl⟩ | ⟨k, hk, rfl⟩
      · refine ⟨decI u, ?_, rfl, ?_⟩
        · by_cases h : u < 10
          · rw [decI_small h]; simp
          · rw [decI_big h]; simp
        · have hp : 0 < (decI u).length := by
            by_cases h : u < 10
            · rw [decI_small h]; simp
            · rw [decI_big h]; simp
          exact (innB_iff _ hp).2 (.inl ⟨u, hu, rfl⟩)
      · exact ⟨34 :: (k ++ [34]), by simp, by simp, (innB_iff _ (by simp)).2 (.inr ⟨k, hk, rfl⟩)⟩
    obtain ⟨ys, hp, rfl, hi⟩ := this
    simp only [innR, Bool.and_eq_true, decide_eq_true_eq]
    refine ⟨⟨by simp; omega, by simp [List.getD_eq_getElem?_getD]⟩, by simpa using hi⟩

/-- The last bytes that are c, cut off. -/
def trimR (c : Int) (ys : List Int) : List Int := (ys.reverse.dropWhile (fun x => decide (x = c))).reverse
/-- The first bytes that are c, cut off. -/
def trimL (c : Int) (ys : List Int) : List Int := ys.dropWhile (fun x => decide (x = c))

theorem trimR_snoc {c d : Int} (ys : List Int) (h : d ≠ c) : trimR c (ys ++ [d, c]) = ys ++ [d] := by
  unfold trimR
  simp [List.dropWhile, h]

theorem decI_snoc (u : Nat) : ∃ ys d, decI u = ys ++ [d] ∧ 48 ≤ d ∧ d ≤ 57 := by
  by_cases h : u < 10
  · exact ⟨[], 48 + u, by rw [decI_small h]; rfl, by omega, by omega⟩
  · exact ⟨_, _, decI_big h, by omega, by omega⟩

theorem trimR_dec (u : Nat) : trimR 93 (decI u ++ [93]) = decI u := by
  obtain ⟨ys, d, e, h1, h2⟩ := decI_snoc u
  rw [e, List.append_assoc]
  exact trimR_snoc ys (by omega)
theorem trimR_key (k : List Int) : trimR 93 (34 :: (k ++ [34, 93])) = 34 :: (k ++ [34]) := by
  rw [← List.cons_append, ← List.cons_append]
  exact trimR_snoc (34 :: k) (by omega)

theorem name_head {k : List Int} (h : nameB k = true) : ∃ c t, k = c :: t ∧ c ≠ 34 := by
  have hl := nameB_le h
  cases k with
  | nil => simp at hl
  | cons c t =>
    refine ⟨c, t, rfl, ?_⟩
    simp [nameB, letB] at h
    omega
theorem name_last {k : List Int} (h : nameB k = true) : ∃ t c, k = t ++ [c] ∧ c ≠ 34 := by
  have hl := nameB_le h
  have hp : k.length - 1 < k.length := by omega
  refine ⟨_, k[k.length - 1], snoc_of (by omega) (by simp [List.getD_eq_getElem?_getD, hp]), ?_⟩
  simp only [nameB, Bool.and_eq_true, List.all_eq_true] at h
  have := h.2 _ (List.getElem_mem hp)
  simp [letB] at this
  omega
theorem trim_name {k : List Int} (h : nameB k = true) : trimR 34 (34 :: (k ++ [34])) = 34 :: k ∧ trimL 34 (34 :: k) = k := by
  obtain ⟨t, c, e, hc⟩ := name_last h
  obtain ⟨c', t', e', hc'⟩ := name_head h
  constructor
  · rw [e, List.append_assoc]
    show trimR 34 (34 :: (t ++ [c, 34])) = _
    rw [← List.cons_append, trimR_snoc _ hc]
    rfl
  · rw [e']
    simp [trimL, List.dropWhile, hc']

theorem item_iff {xs : List Int} (n : Int) (h : cutI xs < xs.length) : xs = addrItem (xs.take (cutI xs)) n ↔ nameB (xs.take (cutI xs)) = true ∧ 0 ≤ n ∧ n ≤ 99 ∧ xs.drop (cutI xs + 1) = decI n.toNat ++ [93] := by
  have hs := cutI_split h
  generalize xs.take (cutI xs) = p at *
  generalize xs.drop (cutI xs + 1) = r at *
  constructor
  · intro e
    by_cases hc : nameB p = true ∧ 0 ≤ n ∧ n ≤ 99
    · refine ⟨hc.1, hc.2.1, hc.2.2, ?_⟩
      unfold addrItem at e
      rw [if_pos hc, hs] at e
      simpa using e
    · rw [addrItem_no _ _ hc] at e
      rw [e] at hs
      simp at hs
  · rintro ⟨h1, h2, h3, h4⟩
    unfold addrItem
    rw [if_pos ⟨h1, h2, h3⟩]
    rw [h4] at hs
    simpa using hs
theorem key_iff {xs : List Int} (k : List Int) (h : cutI xs < xs.length) : xs = addrKey (xs.take (cutI xs)) k ↔ nameB (xs.take (cutI xs)) = true ∧ nameB k = true ∧ xs.drop (cutI xs + 1) = 34 :: (k ++ [34, 93]) := by
  have hs := cutI_split h
  generalize xs.take (cutI xs) = p at *
  generalize xs.drop (cutI xs + 1) = r at *
  constructor
  · intro e
    by_cases hc : nameB p = true ∧ nameB k = true
    · refine ⟨hc.1, hc.2, ?_⟩
      unfold addrKey at e
      rw [if_pos hc, hs] at e
      simpa using e
    · rw [addrKey_no _ _ hc] at e
      rw [e] at hs
      simp at hs
  · rintro ⟨h1, h2, h4⟩
    unfold addrKey
    rw [if_pos ⟨h1, h2⟩]
    rw [h4] at hs
    simpa using hs

/-- The program's way. -/
theorem addrN_way {xs : List Int} {n : Int} {key : List Int} (h : cutI xs < xs.length) (hn : ∀ u : Nat, u ≤ 99 → trimR 93 (xs.drop (cutI xs + 1)) = decI u → n = u) (hk : ∀ k, nameB k = true → trimR 93 (xs.drop (cutI xs + 1)) = 34 :: (k ++ [34]) → key = k) :
    (xs = addrItem (xs.take (cutI xs)) n ∨ xs = addrKey (xs.take (cutI xs)) key → addrN xs = nameC (xs.take (cutI xs))) ∧ (¬ xs = addrItem (xs.take (cutI xs)) n → ¬ xs = addrKey (xs.take (cutI xs)) key → addrN xs = []) := by
  have hne : ¬ cutI xs = xs.length := by omega
  have hB : addrB xs = true ↔ nameB (xs.take (cutI xs)) = true ∧ innR (xs.drop (cutI xs + 1)) = true := by simp [addrB, hne]
  rw [item_iff n h, key_iff key h]
  constructor
  · intro h'
    have hb : addrB xs = true := by
      rw [hB, innR_iff]
      rcases h' with ⟨h1, h2, h3, h4⟩ | ⟨h1, h2, h4⟩
      · exact ⟨h1, .inl ⟨n.toNat, by omega, h4⟩⟩
      · exact ⟨h1, .inr ⟨key, h2, h4⟩⟩
    simp [addrN, nameC, hb, (hB.1 hb).1]
  · intro h1 h2
    have hb : ¬ addrB xs = true := by
      rw [hB, innR_iff]
      rintro ⟨hp, ⟨u, hu, e⟩ | ⟨k, hk', e⟩⟩
      · have := hn u hu (by rw [e, trimR_dec])
        subst this
        exact h1 ⟨hp, by omega, by omega, by simpa using e⟩
      · have := hk k hk' (by rw [e, trimR_key])
        subst this
        exact h2 ⟨hp, hk', e⟩
    simp [addrN, hb]
theorem addrN_bare {xs : List Int} (h : cutI xs = xs.length) : addrN xs = nameC xs := by
  have e : xs.take (cutI xs) = xs := by rw [h]; simp
  simp [addrN, addrB, nameC, h]
theorem addrN_len (xs : List Int) : decide (0 < (addrN xs).length) = addrB xs := by
  unfold addrN
  by_cases h : addrB xs = true
  · have h1 : nameB (xs.take (cutI xs)) = true := by simp [addrB] at h; exact h.1
    have := (nameB_le h1).1
    simp only [h, if_true]
    exact decide_eq_true (by omega)
  · simp [h]

/-! the library's trims and numbers, at such lists -/

theorem ofNat_eq {x c : Int} (hx : Byt x) (hc : Byt c) : (UInt8.ofNat x.toNat == UInt8.ofNat c.toNat) = decide (x = c) := by
  unfold Byt at hx hc
  by_cases h : x = c
  · subst h; simp
  · simp only [h, decide_false, beq_eq_false_iff_ne, ne_eq]
    intro e
    have := congrArg UInt8.toNat e
    simp at this
    omega
theorem dropW_bytes {c : Int} (hc : Byt c) : ∀ (l : List Int), (∀ x ∈ l, Byt x) → (u8s l).dropWhile ([UInt8.ofNat c.toNat].contains ·) = u8s (l.dropWhile (fun x => decide (x = c)))
  | [], _ => rfl
  | x :: l, h => by
    have hx := h x (by simp)
    have ih := dropW_bytes hc l (fun y hy => h y (by simp [hy]))
    have e := ofNat_eq hx hc
    unfold u8s at ih ⊢
    simp only [List.map_cons, List.dropWhile_cons, Lib.contains_one, e]
    simp only [Lib.contains_one] at ih
    by_cases hxc : x = c
    · simp only [hxc, decide_true, if_true]
      exact ih
    · simp [hxc]
theorem trimR_bytes {c : Int} (hc : Byt c) (l : List Int) (h : ∀ x ∈ l, Byt x) : Lib.trimRightS (u8s l) [UInt8.ofNat c.toNat] = u8s (trimR c l) := by
  unfold Lib.trimRightS trimR
  have e : (u8s l).reverse = u8s l.reverse := by simp [u8s]
  rw [e, dropW_bytes hc _ (fun x hx => h x (by simpa using hx))]
  simp [u8s]
theorem trimR_take (c : Int) (l : List Int) : trimR c l = l.take (trimR c l).length := by
  unfold trimR
  have h1 : (l.reverse.dropWhile (fun x => decide (x = c))) <:+ l.reverse := List.dropWhile_suffix _
  have h2 : (l.reverse.dropWhile (fun x => decide (x = c))).reverse <+: l := by
    have := List.reverse_prefix.2 h1
    simpa using this
  exact (List.prefix_iff_eq_take.1 h2)
theorem trimR_len (c : Int) (l : List Int) : (trimR c l).length ≤ l.length := by
  have := congrArg List.length (trimR_take c l)
  simp at this
  omega
theorem trim_bytes {c : Int} (hc : Byt c) (l : List Int) (h : ∀ x ∈ l, Byt x) : Lib.trimS (u8s l) [UInt8.ofNat c.toNat] = u8s (trimL c (trimR c l)) := by
  unfold Lib.trimS
  rw [trimR_bytes hc l h]
  unfold Lib.trimLeftS trimL
  refine dropW_bytes hc _ fun x hx => h x ?_
  rw [trimR_take] at hx
  exact List.mem_of_mem_take hx
theorem trimL_drop (c : Int) (l : List Int) : trimL c l = l.drop (l.length - (trimL c l).length) := by
  unfold trimL
  have h1 : (l.dropWhile (fun x => decide (x = c))) <:+ l := List.dropWhile_suffix _
  exact (List.suffix_iff_eq_drop.1 h1)
theorem u8s_len (l : List Int) : (u8s l).length = l.length := by simp [u8s]

theorem atoi_one : ∀ u, u < 10 → Lib.atoiAll [UInt8.ofNat (48 + u)] = .ok (u : Int) := by decide
theorem atoi_two : ∀ a, a < 10 → ∀ b, b < 10 → Lib.atoiAll [UInt8.ofNat (48 + a), UInt8.ofNat (48 + b)] = .ok ((10 * a + b : Nat) : Int) := by decide +kernel
theorem u8s_dec (u : Nat) : u8s (decI u) = Lib.decDigits u := by
  unfold u8s decI
  rw [List.map_map]
  conv => rhs; rw [← List.map_id (Lib.decDigits u)]
  refine List.map_congr_left fun b _ => ?_
  simp
theorem atoi_dec (u : Nat) (h : u ≤ 99) : Lib.atoiAll (u8s (decI u)) = .ok (u : Int) := by
  rw [u8s_dec]
  by_cases h1 : u < 10
  · rw [Lib.decDigits_one h1]
    exact atoi_one u h1
  · rw [Lib.decDigits_two h1 (by omega), atoi_two (u / 10) (by omega) (u % 10) (by omega)]
    congr 2
    omega
end Go.Proofs.YtngjhimieacjhaaGreatDoor
/-
  A piece of a slice of bytes can be read.
-/
namespace Go.Proofs.YtngjhimieacjhaaGreatDoor
open Go.RowKit
set_option linter.unusedVariables false

theorem Seg.piece {w : World} {b off : Nat} {xs : List Int} (h : Seg w (some ⟨b, off, none⟩) xs) (j s : Nat) (hj : j + s ≤ xs.length) : Seg w (some ⟨b, off + j, none⟩) ((xs.drop j).take s) := by
  refine ⟨fun x hx => h.1 x (List.mem_of_mem_drop (List.mem_of_mem_take hx)), ?_⟩
  by_cases hs : s = 0
  · exact .inl (by simp [hs])
  · rcases h.2 with h0 | ⟨b', off', h1, h2⟩
    · subst h0; simp at hj; omega
    · simp at h1
      obtain ⟨rfl, rfl⟩ := h1
      refine .inr ⟨b, off + j, rfl, fun i hi => ?_⟩
      have hl : i < s := by simp at hi; omega
      have := h2 (j + i) (by omega)
      rw [Nat.add_assoc, this]
      simp [List.getD_eq_getElem?_getD, List.getElem?_drop, hl]
theorem Seg.front {w : World} {a : Option Addr} {xs : List Int} (h : Seg w a xs) (s : Nat) (hs : s ≤ xs.length) : Seg w a (xs.take s) := by
  refine ⟨fun x hx => h.1 x (List.mem_of_mem_take hx), ?_⟩
  rcases h.2 with h0 | ⟨b, off, rfl, h2⟩
  · subst h0; exact .inl (by simp)
  · refine .inr ⟨b, off, rfl, fun i hi => ?_⟩
    have hl : i < s := by simp at hi; omega
    rw [h2 i (by omega)]
    simp [List.getD_eq_getElem?_getD, hl]
end Go.Proofs.YtngjhimieacjhaaGreatDoor
/-
  What AddrName of the program calls of the library: bytes.Cut at a bracket, bytes.TrimRight, bytes.Trim, bytes.Equal, strconv.Atoi.
-/
namespace Go.Proofs.YtngjhimieacjhaaGreatDoor
open Go.RowKit
set_option linter.unusedVariables false
set_option linter.unusedSimpArgs false

/-- The library's two sentinels hold something. -/
def Errs (w : World) : Prop := (∃ t p, w.var? Tryz.prog "strconv.ErrSyntax" = some #[.iface t p]) ∧ ∃ t p, w.var? Tryz.prog "strconv.ErrRange" = some #[.iface t p]

theorem var_kept {P : Program} {w w' : World} {n : String} {cs : Array Value} (h : w.var? P n = some cs) (hb : Below w.heap.size w w') : w'.var? P n = some cs := by
  unfold World.var? at h ⊢
  cases hg : P.globalNamed n with
  | none => rw [hg] at h; simp at h
  | some g =>
    rw [hg] at h
    simp only [Option.bind_some] at h ⊢
    have hlt : g < w.heap.size := by
      cases hh : w.heap[g]? with
      | none => rw [hh] at h; simp at h
      | some o => exact (Array.getElem?_eq_some_iff.1 hh).1
    rw [hb.block g hlt]
    exact h

theorem Errs.grow {w w' : World} (h : Errs w) (hb : Below w.heap.size w w') : Errs w' := by
  obtain ⟨⟨t1, p1, h1⟩, t2, p2, h2⟩ := h
  exact ⟨⟨t1, p1, var_kept h1 hb⟩, t2, p2, var_kept h2 hb⟩

theorem Seg.bytesIn {w : World} {a : Option Addr} {xs : List Int} {n : Nat} (h : Seg w a xs) (hn : xs.length = n) : Lib.BytesIn w a n xs := by
  intro h0
  rcases h.2 with h1 | ⟨b, off, rfl, hc⟩
  · subst h1; simp at hn; omega
  · exact ⟨b, off, rfl, fun i hi => hc i (by omega)⟩
theorem byt256 {xs : List Int} (h : ∀ x ∈ xs, Byt x) : ∀ x ∈ xs, 0 ≤ x ∧ x < 256 := fun x hx => by have := h x hx; unfold Byt at this; omega

/-- Where the bracket stands, by the library's word. -/
theorem index_cutI : ∀ (xs : List Int), (∀ x ∈ xs, Byt x) → Lib.indexByte (Lib.bytesOf xs) (91 : Int).toNat.toUInt8 = if cutI xs < xs.length then (cutI xs : Int) else -1
  | [], _ => rfl
  | x :: xs, h => by
    have ih := index_cutI xs (fun y hy => h y (by simp [hy]))
    have hx := h x (by simp)
    have e : ((UInt8.ofNat x.toNat) == (91 : Int).toNat.toUInt8) = decide (x = 91) := ofNat_eq hx (c := 91) (by simp [Byt])
    have hstep : cutI (x :: xs) = if x = 91 then 0 else cutI xs + 1 := by
      unfold cutI
      rw [List.findIdx_cons]
      by_cases hx91 : x = 91 <;> simp [hx91]
    show Lib.indexByte (UInt8.ofNat x.toNat :: Lib.bytesOf xs) _ = _
    rw [Lib.indexByte, e, ih, hstep]
    by_cases hx91 : x = 91
    · simp [hx91]
    · simp only [hx91, decide_false, Bool.false_eq_true, if_false]
      by_cases hc : cutI xs < xs.length
      · have h1 : ¬ ((cutI xs : Int) == -1) = true := by simp
        have h2 : cutI xs + 1 < (x :: xs).length := by simp; omega
        rw [if_pos hc, if_neg h1, if_pos h2]
        omega
      · have h2 : ¬ cutI xs + 1 < (x :: xs).length := by simp; omega
        rw [if_neg hc, if_neg h2]
        rfl

/-- What bytes.Cut leaves: the part ahead, the part behind. -/
def CutEnd (a : Option Addr) (c : Nat) (xs : List Int) (w : World) (e : Ending) (w' : World) : Prop :=
  Below w.heap.size w w' ∧ ∃ a2 c2, e = .returned (.tuple #[.slice a (cutI xs) c, .slice a2 (xs.drop (cutI xs + 1)).length c2, .bool (decide (cutI xs < xs.length))]) ∧ Seg w a2 (xs.drop (cutI xs + 1)) ∧ (xs.drop (cutI xs + 1)).length ≤ c2 ∧ c2 ≤ maxLen

theorem below_drawn (w : World) (q : Nat) : Below w.heap.size w (w.drewN q) := below_drewN (Below.refl _ _) q

theorem cut_any (a : Option Addr) (c g : Nat) (xs : List Int) (w : World) (ha : Seg w a xs) (hl : xs.length ≤ 4611686018427387904) (hcap : xs.length ≤ c) (hc2 : c ≤ maxLen) (ka : a = none → c = 0) (hg : w.cell? ⟨g, 0, none⟩ = some (.int .u8 91)) :
    Calls Tryz.prog 96 #[.slice a xs.length c, .slice (some ⟨g, 0, none⟩) 1 1] w (CutEnd a c xs w) := by
  unfold maxLen at hc2
  have hI : Calls Tryz.prog 116 #[.slice a xs.length c, .slice (some ⟨g, 0, none⟩) 1 1] w fun e w' => e = .returned (.int .i64 (if cutI xs < xs.length then (cutI xs : Int) else -1)) ∧ ∃ q, w' = w.drewN q := by
    rw [← index_cutI xs ha.1]
    cases a with
    | none =>
      have hx : xs = [] := by
        rcases ha.2 with h0 | ⟨b, off, h1, _⟩
        · exact h0
        · simp at h1
      subst hx
      rw [ka rfl]
      exact (Tryz.bytes_Index_one_nil g 0 1 91 w hg).mono fun e w' ⟨he, hw⟩ => ⟨he, 0, hw⟩
    | some x =>
      by_cases h0 : xs = []
      · subst h0
        obtain ⟨b, o, s⟩ := x
        have := Tryz.bytes_Index_one_at ⟨b, o, s⟩ 0 c g 0 1 [] 91 w rfl (by intro i hi; omega) hg
        exact this.mono fun e w' ⟨he, hw⟩ => ⟨he, 0, hw⟩
      · rcases ha.2 with h1 | ⟨b, off, h1, hc⟩
        · exact absurd h1 h0
        · simp at h1
          subst h1
          exact (Tryz.bytes_Index_one b off xs.length c g 0 1 xs 91 w rfl hc hg).mono fun e w' ⟨he, hw⟩ => ⟨he, 0, hw⟩
  have hle := cutI_le xs
  refine (Tryz.bytes_Cut_of a (some ⟨g, 0, none⟩) xs.length c 1 1 _ w hcap (by split <;> omega) (by split <;> omega) (by omega) hI).mono fun e w' ⟨he, q, hw⟩ => ?_
  subst hw
  refine ⟨below_drawn w q, ?_⟩
  by_cases h : cutI xs < xs.length
  · rw [if_pos h] at he
    unfold Lib.cutV at he
    rw [if_pos (by omega)] at he
    obtain ⟨b, off, rfl, _⟩ := ha.at (k := 0) (by omega)
    have hl : (xs.drop (cutI xs + 1)).length = xs.length - (cutI xs + 1) := by simp
    refine ⟨if c = cutI xs + 1 then some ⟨b, off, none⟩ else some ⟨b, off + (cutI xs + 1), none⟩, c - (cutI xs + 1), ?_, ?_, by omega, by unfold maxLen; omega⟩
    · rw [he, hl, decide_eq_true h]
      unfold Lib.fromV
      simp [Addr.add_lit]
    · by_cases hc : c = cutI xs + 1
      · rw [if_pos hc]
        have : xs.drop (cutI xs + 1) = [] := List.drop_eq_nil_of_le (by omega)
        rw [this]
        exact ⟨by simp, .inl rfl⟩
      · rw [if_neg hc]
        have := ha.piece (cutI xs + 1) (xs.length - (cutI xs + 1)) (by omega)
        have e : (xs.drop (cutI xs + 1)).take (xs.length - (cutI xs + 1)) = xs.drop (cutI xs + 1) := List.take_of_length_le (by simp)
        rw [e] at this
        exact this
  · have h' : cutI xs = xs.length := by omega
    rw [if_neg h] at he
    unfold Lib.cutV at he
    rw [if_neg (by omega)] at he
    have hd : xs.drop (cutI xs + 1) = [] := List.drop_eq_nil_of_le (by omega)
    refine ⟨none, 0, ?_, ?_, ?_, Nat.zero_le _⟩
    · rw [he, hd, decide_eq_false h, h']
      rfl
    · rw [hd]; exact ⟨by simp, .inl rfl⟩
    · rw [hd]; exact Nat.le_refl _

theorem trimRight_any (a : Option Addr) (c : Nat) (r : List Int) (w : World) (ha : Seg w a r) (hcap : r.length ≤ c) (hc2 : c ≤ maxLen) :
    Calls Tryz.prog 97 #[.slice a r.length c, .string ⟨#[93]⟩] w fun e w' => e = .returned (.slice a (trimR 93 r).length c) ∧ Below w.heap.size w w' := by
  unfold maxLen at hc2
  have h := Any.bytes_TrimRight_laid Tryz.laysV7 (by kernel_rfl) a r.length c r ⟨#[93]⟩ w rfl hcap (by omega) (ha.bytesIn rfl) (byt256 ha.1) (by decide) (by intro j b hb; cases j <;> simp at hb; subst hb; decide)
  have e : (Lib.trimRightS (Lib.bytesOf r) (⟨#[93]⟩ : ByteArray).data.toList).length = (trimR 93 r).length := by
    have := trimR_bytes (c := 93) (by simp [Byt]) r ha.1
    rw [← u8s_len (trimR 93 r), ← this]
    rfl
  rw [e] at h
  exact h

theorem trim_any (a : Option Addr) (c : Nat) (r : List Int) (w : World) (ha : Seg w a r) (hcap : r.length ≤ c) (hc2 : c ≤ maxLen) :
    Calls Tryz.prog 99 #[.slice a r.length c, .string ⟨#[34]⟩] w fun e w' => Below w.heap.size w w' ∧ ∃ a3 c3, e = .returned (.slice a3 (trimL 34 (trimR 34 r)).length c3) ∧ Seg w a3 (trimL 34 (trimR 34 r)) ∧ (a3 = none → c3 = 0) := by
  unfold maxLen at hc2
  have h := Any.bytes_Trim_laid Tryz.laysV6 (by kernel_rfl) a r.length c r ⟨#[34]⟩ w rfl hcap (by omega) (ha.bytesIn rfl) (byt256 ha.1) (by decide) (by intro j b hb; cases j <;> simp at hb; subst hb; decide)
  have e : (Lib.trimRightS (Lib.bytesOf r) (⟨#[34]⟩ : ByteArray).data.toList).length = (trimR 34 r).length := by
    have := trimR_bytes (c := 34) (by simp [Byt]) r ha.1
    rw [← u8s_len (trimR 34 r), ← this]
    rfl
  have e2 : (Lib.trimS (Lib.bytesOf r) (⟨#[34]⟩ : ByteArray).data.toList).length = (trimL 34 (trimR 34 r)).length := by
    have := trim_bytes (c := 34) (by simp [Byt]) r ha.1
    rw [← u8s_len (trimL 34 (trimR 34 r)), ← this]
    rfl
  rw [e, e2] at h
  have hl1 := trimR_len 34 r
  have hd := trimL_drop 34 (trimR 34 r)
  have hl2 : (trimL 34 (trimR 34 r)).length ≤ (trimR 34 r).length := by have := congrArg List.length hd; simp at this; omega
  have ht := trimR_take 34 r
  refine h.mono fun e w' ⟨he, hb⟩ => ⟨hb, ?_⟩
  generalize hk : (trimR 34 r).length = k at *
  generalize hm : (trimL 34 (trimR 34 r)).length = m at *
  unfold Lib.leftV at he
  by_cases hz : m = 0
  · rw [if_pos (by omega)] at he
    have : trimL 34 (trimR 34 r) = [] := List.eq_nil_of_length_eq_zero (by omega)
    exact ⟨none, 0, by rw [he, hz], by rw [this]; exact ⟨by simp, .inl rfl⟩, fun _ => rfl⟩
  · rw [if_neg (by omega)] at he
    obtain ⟨b, off, rfl, _⟩ := ha.at (k := 0) (by omega)
    unfold Lib.fromV at he
    have hkm : k - (k - m) = m := by omega
    rw [hkm, if_neg (by omega)] at he
    refine ⟨some ⟨b, off + (k - m), none⟩, c - (k - m), by rw [he]; simp [Addr.add_lit], ?_, by simp⟩
    have hp := ha.piece (k - m) m (by omega)
    have e3 : trimL 34 (trimR 34 r) = (r.drop (k - m)).take m := by
      rw [hd, ht, List.drop_take, hkm]
    rw [e3]
    exact hp

theorem equal_any (a b : Option Addr) (c1 c2 : Nat) (xs ys : List Int) (w : World) (ha : Seg w a xs) (hb : Seg w b ys) :
    Calls Tryz.prog 100 #[.slice a xs.length c1, .slice b ys.length c2] w fun e w' => e = .returned (.bool (decide (xs = ys))) ∧ w' = w := by
  have h := Tryz.bytes_Equal_all a b xs.length c1 ys.length c2 xs ys w rfl rfl (ha.bytesIn rfl) (hb.bytesIn rfl)
  have e : (Lib.bytesOf xs == Lib.bytesOf ys) = decide (xs = ys) := by
    have := strOf_eq ha.1 hb.1
    rw [strOf_list, strOf_list] at this
    exact this
  rw [e] at h
  exact h

theorem atoi_any (t : List Int) (w : World) (hl : t.length ≤ 281474976710656) (hE : Errs w) :
    Calls Tryz.prog 98 #[.string (strOf t)] w fun e w' => Below w.heap.size w w' ∧ ∃ n v, e = .returned (.tuple #[.int .i64 n, v]) ∧ ∀ u : Nat, u ≤ 99 → t = decI u → n = u := by
  have hs : (strOf t).size = t.length := size_strOf t
  have hd : (strOf t).data.toList = u8s t := rfl
  obtain ⟨⟨t1, p1, h1⟩, t2, p2, h2⟩ := hE
  cases hA : Lib.atoiAll (u8s t) with
  | ok v =>
    refine (Tryz.strconv_Atoi_ok (strOf t) (by omega) v (by rw [hd]; exact hA) w).mono fun e w' ⟨he, hw⟩ => ⟨?_, v, .nilIface, he, fun u hu ht => ?_⟩
    · rcases hw with rfl | ⟨s, rfl⟩
      · exact Below.refl _ _
      · exact Lib.bytesWorld_below w 5 s
    · subst ht
      rw [atoi_dec u hu] at hA
      injection hA with hA
      exact hA.symm
  | «syntax» =>
    refine (Tryz.strconv_Atoi_syntax_var (strOf t) (by omega) (by rw [hd]; exact hA) t1 p1 w h1).mono fun e w' ⟨N, he, _, _, hb⟩ => ⟨hb, 0, _, he, fun u hu ht => ?_⟩
    subst ht
    rw [atoi_dec u hu] at hA
    cases hA
  | range =>
    refine (Tryz.strconv_Atoi_range_var (strOf t) (by omega) (by rw [hd]; exact hA) t2 p2 w h2).mono fun e w' ⟨N, he, _, _, hb⟩ => ⟨hb, _, _, he, fun u hu ht => ?_⟩
    subst ht
    rw [atoi_dec u hu] at hA
    cases hA
end Go.Proofs.YtngjhimieacjhaaGreatDoor
/-
  What the row lists of the library's sentinels: they hold something.
-/
namespace Go.Proofs.YtngjhimieacjhaaGreatDoor
open Go.RowKit
set_option linter.unusedVariables false
set_option maxRecDepth 100000

theorem err_row (u : TypeId) (nm : String) (he : nm.toList = (42 :: [101, 114, 114, 111, 114, 115, 46, 101, 114, 114, 111, 114, 83, 116, 114, 105, 110, 103]).map Char.ofNat) (h : Tryz.prog.typeName? 3 u = some nm) : u = 240 :=
  typeName_ptr_named (nm := "errors.errorString") (by kernel_rfl) (by kernel_rfl) (by decide) u (h.trans (congrArg some (String.toList_inj.1 (he.trans (by decide)))))

theorem err_of_laid {n : String} {text : List UInt8} {nm : String} {r : List (String × DataW Unit)} {w : World} (he : nm.toList = (42 :: [101, 114, 114, 111, 114, 115, 46, 101, 114, 114, 111, 114, 83, 116, 114, 105, 110, 103]).map Char.ofNat) (hl : laidMet Tryz.prog ((n, .iface nm (.ptr (.agg [.lit (.string text)]))) :: r) w)
    (ht : (Tryz.prog.globalNamed n).bind (fun g => (Tryz.prog.globals[g]?).map (·.type)) = some 145) : ∃ t p, w.var? Tryz.prog n = some #[.iface t p] := by
  cases hg : Tryz.prog.globalNamed n with
  | none => rw [hg] at ht; simp at ht
  | some g =>
    rw [hg] at ht
    obtain ⟨a, s, hv, _⟩ := laid_sentinel hl hg ht Tryz.underlying145 (fun u h => err_row u nm he h) Tryz.underlying240 Tryz.underlying242 rfl rfl Tryz.underlying9 (by kernel_rfl) (by kernel_rfl)
    exact ⟨_, _, hv⟩

theorem errs_of_laid {r : List (String × DataW Unit)} {w : World} (h : laidMet Tryz.prog (("strconv.ErrRange", Rows.laid_strconv_ErrRange) :: ("strconv.ErrSyntax", Rows.laid_strconv_ErrSyntax) :: r) w) : Errs w :=
  ⟨err_of_laid (by decide) h.tail (by kernel_rfl), err_of_laid (by decide) h (by kernel_rfl)⟩
end Go.Proofs.YtngjhimieacjhaaGreatDoor
