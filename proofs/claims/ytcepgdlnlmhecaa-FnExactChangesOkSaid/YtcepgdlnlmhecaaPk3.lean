/-
  Texts that a law leans on, one behind the other; no statement is proved here.
-/
import Derived.Test.YtcepgdlnlmhecaaPk2
import Derived.Test.YtcepgdlnlmhecaaPk1
import Derived.Deep.MidRow
import Derived.Test.YtcepgdlnlmhecaaPk0
import Derived.Laws.IdiomStrings
import Derived.Lib.Bytealg
/-
  Changes: what thirteen cells of memory read as; lists of them; szChange.
-/
namespace Go.Proofs.Ytcepgdlnlmhecaa
open Go.RowKit
set_option linter.unusedVariables false
set_option linter.unusedSimpArgs false

/-- A change: path, had, old, has, new. -/
def Chg (d : Nat) : Type := List Stp × Bool × Vl d × Bool × Vl d

/-- Thirteen cells that read as a change. -/
def CSg (R : Nat → Prop) (w : World) (d : Nat) (cs : List Value) (x : Chg d) : Prop :=
  ∃ c0 c2 c3 c4 c5 c6 c8 c9 c10 c11 c12, cs = [c0, .bool x.2.1, c2, c3, c4, c5, c6, .bool x.2.2.2.1, c8, c9, c10, c11, c12] ∧ PthSeg R w c0 x.1 ∧ VSeg R w d (c2, c3, c4, c5, c6) x.2.2.1 ∧ VSeg R w d (c8, c9, c10, c11, c12) x.2.2.2.2

/-- A list of changes, read. -/
def CLSg (R : Nat → Prop) (w : World) (d : Nat) (x : Value) (l : List (Chg d)) : Prop :=
  ∃ a cap, x = .slice a l.length cap ∧ l.length ≤ cap ∧ cap ≤ maxLen ∧ (a = none → cap = 0) ∧ (l = [] ∨ ∃ b off, a = some ⟨b, off, none⟩ ∧ R b ∧ ∀ i (h : i < l.length), ∃ cs, w.rangeAt b (off + i * 13) cs ∧ CSg R w d cs l[i])

theorem range_agree {R : Nat → Prop} {w w' : World} {b o : Nat} {cs : List Value} (h : w.rangeAt b o cs) (ha : Agree R w w') (hb : R b) : w'.rangeAt b o cs := fun j v hv => (World.cell?_of_block (ha b hb)).trans (h j v hv)
theorem CSg.agree {R : Nat → Prop} {w w' : World} {d : Nat} {cs : List Value} {x : Chg d} (h : CSg R w d cs x) (ha : Agree R w w') : CSg R w' d cs x := by
  obtain ⟨c0, c2, c3, c4, c5, c6, c8, c9, c10, c11, c12, e, h1, h2, h3⟩ := h
  exact ⟨c0, c2, c3, c4, c5, c6, c8, c9, c10, c11, c12, e, h1.agree ha, VSeg.agree ha d h2, VSeg.agree ha d h3⟩
theorem CSg.mono {R R' : Nat → Prop} {w : World} {d : Nat} {cs : List Value} {x : Chg d} (h : CSg R w d cs x) (hr : ∀ b, R b → R' b) : CSg R' w d cs x := by
  obtain ⟨c0, c2, c3, c4, c5, c6, c8, c9, c10, c11, c12, e, h1, h2, h3⟩ := h
  exact ⟨c0, c2, c3, c4, c5, c6, c8, c9, c10, c11, c12, e, h1.mono hr, VSeg.mono hr d h2, VSeg.mono hr d h3⟩
theorem CLSg.agree {R : Nat → Prop} {w w' : World} {d : Nat} {x : Value} {l : List (Chg d)} (h : CLSg R w d x l) (ha : Agree R w w') : CLSg R w' d x l := by
  obtain ⟨a, cap, e, h1, h2, h3, h4⟩ := h
  refine ⟨a, cap, e, h1, h2, h3, ?_⟩
  rcases h4 with h0 | ⟨b, off, ea, hb, hc⟩
  · exact .inl h0
  · refine .inr ⟨b, off, ea, hb, fun i hi => ?_⟩
    obtain ⟨cs, hr, hv⟩ := hc i hi
    exact ⟨cs, range_agree hr ha hb, hv.agree ha⟩
theorem CLSg.mono {R R' : Nat → Prop} {w : World} {d : Nat} {x : Value} {l : List (Chg d)} (h : CLSg R w d x l) (hr : ∀ b, R b → R' b) : CLSg R' w d x l := by
  obtain ⟨a, cap, e, h1, h2, h3, h4⟩ := h
  refine ⟨a, cap, e, h1, h2, h3, ?_⟩
  rcases h4 with h0 | ⟨b, off, ea, hb, hc⟩
  · exact .inl h0
  · refine .inr ⟨b, off, ea, hr b hb, fun i hi => ?_⟩
    obtain ⟨cs, hq, hv⟩ := hc i hi
    exact ⟨cs, hq, hv.mono hr⟩
theorem CLSg.at {R : Nat → Prop} {w : World} {d : Nat} {a : Option Addr} {n cap : Nat} {l : List (Chg d)} (h : CLSg R w d (.slice a n cap) l) {k : Nat} (hk : k < l.length) :
    ∃ b off, a = some ⟨b, off, none⟩ ∧ R b ∧ ∀ i (h : i < l.length), ∃ cs, w.rangeAt b (off + i * 13) cs ∧ CSg R w d cs l[i] := by
  obtain ⟨a', cap', g1, _, _, _, g5⟩ := h
  simp only [Value.slice.injEq] at g1
  obtain ⟨rfl, _, _⟩ := g1
  rcases g5 with e | ⟨b, off, hb, hR, hc⟩
  · rw [e] at hk; simp at hk
  · exact ⟨b, off, hb, hR, hc⟩
theorem CLSg.form {R : Nat → Prop} {w : World} {d : Nat} {x : Value} {l : List (Chg d)} (h : CLSg R w d x l) : ∃ a p, x = .slice a l.length p := by
  obtain ⟨a, cap, h1, _⟩ := h
  exact ⟨_, _, h1⟩
theorem PthSeg.sl {R : Nat → Prop} {w : World} {x : Value} {l : List Stp} (h : PthSeg R w x l) : ∃ a p, x = .slice a l.length p := by
  obtain ⟨a, p, e, _⟩ := h
  exact ⟨a, p, e⟩
/-- The cells, in full. -/
theorem CSg.form {R : Nat → Prop} {w : World} {d : Nat} {cs : List Value} {x : Chg d} (h : CSg R w d cs x) :
    ∃ (pa : Option Addr) (pc : Nat) (ok on : Int) (o2 : Option Addr) (ol2 op2 : Nat) (o3 : Option Addr) (ol3 op3 : Nat) (o4 : Option Addr) (ol4 op4 : Nat) (nk nn : Int) (n2 : Option Addr) (nl2 np2 : Nat) (n3 : Option Addr) (nl3 np3 : Nat) (n4 : Option Addr) (nl4 np4 : Nat), cs = [.slice pa x.1.length pc, .bool x.2.1, .int .i64 ok, .int .i64 on, .slice o2 ol2 op2, .slice o3 ol3 op3, .slice o4 ol4 op4, .bool x.2.2.2.1, .int .i64 nk, .int .i64 nn, .slice n2 nl2 np2, .slice n3 nl3 np3, .slice n4 nl4 np4] ∧ PthSeg R w (.slice pa x.1.length pc) x.1 ∧ VSeg R w d (.int .i64 ok, .int .i64 on, .slice o2 ol2 op2, .slice o3 ol3 op3, .slice o4 ol4 op4) x.2.2.1 ∧ VSeg R w d (.int .i64 nk, .int .i64 nn, .slice n2 nl2 np2, .slice n3 nl3 np3, .slice n4 nl4 np4) x.2.2.2.2 := by
  obtain ⟨c0, c2, c3, c4, c5, c6, c8, c9, c10, c11, c12, rfl, h1, h2, h3⟩ := h
  obtain ⟨ok, on, o2, ol2, op2, o3, ol3, op3, o4, ol4, op4, rfl, rfl, rfl, rfl, rfl⟩ := VSeg.form d h2
  obtain ⟨nk, nn, n2, nl2, np2, n3, nl3, np3, n4, nl4, np4, rfl, rfl, rfl, rfl, rfl⟩ := VSeg.form d h3
  obtain ⟨pa, pc, rfl⟩ := h1.sl
  exact ⟨pa, pc, ok, on, o2, ol2, op2, o3, ol3, op3, o4, ol4, op4, nk, nn, n2, nl2, np2, n3, nl3, np3, n4, nl4, np4, rfl, h1, h2, h3⟩
theorem CSg.len {R : Nat → Prop} {w : World} {d : Nat} {cs : List Value} {x : Chg d} (h : CSg R w d cs x) : cs.length = 13 := by
  obtain ⟨c0, c2, c3, c4, c5, c6, c8, c9, c10, c11, c12, rfl, _⟩ := h
  rfl
theorem CSg.one {R : Nat → Prop} {w : World} {d : Nat} {cs : List Value} {x : Chg d} (h : CSg R w d cs x) : ∀ v ∈ cs, v.oneCell' = true := by
  obtain ⟨pa, pc, ok, on, o2, ol2, op2, o3, ol3, op3, o4, ol4, op4, nk, nn, n2, nl2, np2, n3, nl3, np3, n4, nl4, np4, rfl, _⟩ := h.form
  intro v hv
  simp only [List.mem_cons, List.not_mem_nil, or_false] at hv
  rcases hv with rfl | rfl | rfl | rfl | rfl | rfl | rfl | rfl | rfl | rfl | rfl | rfl | rfl <;> rfl
/-- Its parts are none too great. -/
def CSz (d : Nat) (x : Chg d) : Prop := szP x.1 ≤ 1048576 ∧ szV d x.2.2.1 ≤ 1048576 ∧ szV d x.2.2.2.2 ≤ 1048576

set_option maxHeartbeats 3200000 in
set_option maxRecDepth 100000 in
theorem szChange_any (d N : Nat) (cs : List Value) (x : Chg d) (n : Int) (w : World) (h : CSg (fun b => b < N) w d cs x) (hN : N ≤ w.heap.size) (h0 : 0 ≤ n) (h1 : n ≤ 1048576) :
    Calls Try.prog 9 #[.agg cs.toArray, .int .i64 n] w fun e w' => (e = .returned (.int .i64 (-1)) ∨ ∃ m : Int, 0 ≤ m ∧ m ≤ n ∧ e = .returned (.int .i64 m) ∧ CSz d x) ∧ Below w.heap.size w w' := by
  obtain ⟨pa, pc, ok, on, o2, ol2, op2, o3, ol3, op3, o4, ol4, op4, nk, nn, n2, nl2, np2, n3, nl3, np3, n4, nl4, np4, rfl, ht, hv, hu⟩ := h.form
  obtain ⟨pth, had, old, has, new⟩ := x
  simp only at ht hv hu ⊢
  have HB : Hid (∀ o : Obj, Below w.heap.size w (w.alloc o)) := fun o => (Below.refl _ _).alloc (Nat.le_refl _) o
  have HT : Hid (∀ wx, Below w.heap.size w wx → Calls Try.prog 18 #[.slice pa pth.length pc, .int .i64 n] wx fun e w' => e = .returned (.int .i64 (less n (szP pth))) ∧ Below wx.heap.size wx w') := fun wx hb => szStepS_any N _ pth n wx (ht.agree (agree_below (hb.mono hN))) (by have := hb.size; omega) h0 h1
  have HV : Hid (∀ (m : Int) wx, 0 ≤ m → m ≤ 1048576 → Below w.heap.size w wx → Calls Try.prog 19 #[.agg #[.int .i64 ok, .int .i64 on, .slice o2 ol2 op2, .slice o3 ol3 op3, .slice o4 ol4 op4], .int .i64 m] wx fun e w' => e = .returned (.int .i64 (less m (szV d old))) ∧ Below wx.heap.size wx w') := fun m wx g0 g1 hb => szValue_any d N (.int .i64 ok, .int .i64 on, .slice o2 ol2 op2, .slice o3 ol3 op3, .slice o4 ol4 op4) old m wx (VSeg.agree (agree_below (hb.mono hN)) d hv) (by have := hb.size; omega) g0 g1
  have HU : Hid (∀ (m : Int) wx, 0 ≤ m → m ≤ 1048576 → Below w.heap.size w wx → Calls Try.prog 19 #[.agg #[.int .i64 nk, .int .i64 nn, .slice n2 nl2 np2, .slice n3 nl3 np3, .slice n4 nl4 np4], .int .i64 m] wx fun e w' => e = .returned (.int .i64 (less m (szV d new))) ∧ Below wx.heap.size wx w') := fun m wx g0 g1 hb => szValue_any d N (.int .i64 nk, .int .i64 nn, .slice n2 nl2 np2, .slice n3 nl3 np3, .slice n4 nl4 np4) new m wx (VSeg.agree (agree_below (hb.mono hN)) d hu) (by have := hb.size; omega) g0 g1
  have Hbox : Hid (∀ o wx, Below (w.alloc o).heap.size (w.alloc o) wx → wx.heap[w.heap.size]? = some o) := fun o wx h => box_row h
  clear ht hv hu h
  unfold CSz
  simp only
  generalize szP pth = s0 at *
  generalize szV d old = s1 at *
  generalize szV d new = s2 at *
  generalize pth.length = pl at *
  go_enter Try.func9, Try.ntmps9
  go_wp2_with fail
  refine (HT.out _ (HB.out _)).mono ?_
  rintro e w1 ⟨rfl, b1⟩
  by_cases q0 : n < (s0 : Int)
  · rw [less_no _ _ q0]
    have B1 := hide' (Below.on (HB.out _) b1)
    clear b1
    go_wp2
    go_ret
    exact ⟨.inl rfl, B1.out⟩
  rw [less_yes _ _ q0]
  obtain ⟨n1, e1⟩ : ∃ m : Int, m = n - s0 := ⟨_, rfl⟩
  rw [← e1]
  have g10 : 0 ≤ n1 := by omega
  have g11 : n1 ≤ 1048576 := by omega
  have z0 : s0 ≤ 1048576 := by omega
  have y1 : n1 ≤ n := by omega
  have hr1 := Hbox.out _ _ b1
  have u2 := cell_of_row _ _ 2 _ _ _ hr1
  have u3 := cell_of_row _ _ 3 _ _ _ hr1
  have u4 := cell_of_row _ _ 4 _ _ _ hr1
  have u5 := cell_of_row _ _ 5 _ _ _ hr1
  have u6 := cell_of_row _ _ 6 _ _ _ hr1
  simp at u2 u3 u4 u5 u6
  have B1 := hide' b1
  clear e1 q0 b1 hr1
  go_wp2_with fail
  refine (HV.out n1 _ g10 g11 (Below.on (HB.out _) B1.out)).mono ?_
  rintro e w2 ⟨rfl, b2⟩
  have B2 := hide' (Below.on B1.out b2)
  clear b2 u2 u3 u4 u5 u6
  by_cases q1 : n1 < (s1 : Int)
  · rw [less_no _ _ q1]
    have B3 := hide' (Below.on (HB.out _) B2.out)
    go_wp2
    go_ret
    exact ⟨.inl rfl, B3.out⟩
  rw [less_yes _ _ q1]
  obtain ⟨n2, e2⟩ : ∃ m : Int, m = n1 - s1 := ⟨_, rfl⟩
  rw [← e2]
  have g20 : 0 ≤ n2 := by omega
  have g21 : n2 ≤ 1048576 := by omega
  have z1 : s1 ≤ 1048576 := by omega
  have y2 : n2 ≤ n := by omega
  have hr2 := Hbox.out _ _ B2.out
  have u8 := cell_of_row _ _ 8 _ _ _ hr2
  have u9 := cell_of_row _ _ 9 _ _ _ hr2
  have u10 := cell_of_row _ _ 10 _ _ _ hr2
  have u11 := cell_of_row _ _ 11 _ _ _ hr2
  have u12 := cell_of_row _ _ 12 _ _ _ hr2
  simp at u8 u9 u10 u11 u12
  clear e2 q1 hr2
  go_wp2_with fail
  refine (HU.out n2 _ g20 g21 (Below.on (HB.out _) B2.out)).mono ?_
  rintro e w3 ⟨rfl, b3⟩
  have B3 := hide' (Below.on (HB.out _) (Below.on B2.out b3))
  clear b3 u8 u9 u10 u11 u12
  by_cases q2 : n2 < (s2 : Int)
  · rw [less_no _ _ q2]
    go_wp2
    go_ret
    exact ⟨.inl rfl, B3.out⟩
  rw [less_yes _ _ q2]
  obtain ⟨n3, e3⟩ : ∃ m : Int, m = n2 - s2 := ⟨_, rfl⟩
  rw [← e3]
  have g30 : 0 ≤ n3 := by omega
  have z2 : s2 ≤ 1048576 := by omega
  have y3 : n3 ≤ n := by omega
  have hn3 : ¬ n3 < 0 := by omega
  clear e3 q2
  go_wp2
  go_ret
  exact ⟨.inr ⟨n3, g30, y3, rfl, z0, z1, z2⟩, B3.out⟩
end Go.Proofs.Ytcepgdlnlmhecaa
/-
  string(b) of a slice of bytes; the order of two such.
-/
namespace Go.Proofs.Ytcepgdlnlmhecaa
open Go.RowKit
set_option linter.unusedVariables false

/-- The bytes as a string. -/
def strOf (xs : List Int) : ByteArray := ⟨(xs.map fun n => UInt8.ofNat n.toNat).toArray⟩

theorem map_byt_inj {xs ys : List Int} (hx : ∀ x ∈ xs, Byt x) (hy : ∀ y ∈ ys, Byt y) (h : (xs.map fun n => UInt8.ofNat n.toNat) = ys.map fun n => UInt8.ofNat n.toNat) : xs = ys := by
  induction xs generalizing ys with
  | nil => simpa using h.symm
  | cons x xs ih =>
    cases ys with
    | nil => simp at h
    | cons y ys =>
      simp only [List.map_cons, List.cons.injEq] at h
      have h1 : x = y := by
        have hx0 := hx x (by simp)
        have hy0 := hy y (by simp)
        unfold Byt at hx0 hy0
        have := congrArg UInt8.toNat h.1
        simp at this
        omega
      rw [h1, ih (fun z hz => hx z (by simp [hz])) (fun z hz => hy z (by simp [hz])) h.2]

theorem strOf_eq {xs ys : List Int} (hx : ∀ x ∈ xs, Byt x) (hy : ∀ y ∈ ys, Byt y) : ((strOf xs).toList == (strOf ys).toList) = decide (xs = ys) := by
  rw [strOf, strOf, ByteArray.toList_mk, ByteArray.toList_mk]
  by_cases h : xs = ys
  · simp [h]
  · have : (xs.map fun n => UInt8.ofNat n.toNat) ≠ ys.map fun n => UInt8.ofNat n.toNat := fun e => h (map_byt_inj hx hy e)
    simp [h, this]

theorem conv_seg {w : World} {a : Option Addr} {xs : List Int} (cap : Nat) (h : Seg w a xs) : (convert 31 9 (.slice a xs.length cap)).run Try.prog w = .ok (.string (strOf xs)) w := by
  cases a with
  | none =>
    have hx : xs = [] := by
      rcases h.2 with h0 | ⟨b, off, h1, _⟩
      · exact h0
      · simp at h1
    subst hx
    rw [run_convert_bytes_string w 31 9 5 none _ cap Try.underlying31 Try.underlying5 Try.underlying9]
    rfl
  | some ad =>
    have hl : (xs.map fun n => UInt8.ofNat n.toNat).length = xs.length := by simp
    have := run_convert_bytes_back (P := Try.prog) w 31 9 5 ad cap (xs.map fun n => UInt8.ofNat n.toNat) Try.underlying31 Try.underlying5 Try.underlying9 (by
      intro j hj
      rcases h.2 with h0 | ⟨b, off, h1, h2⟩
      · subst h0; simp at hj
      · simp at h1
        subst h1
        have hj' : j < xs.length := by simpa using hj
        rw [Addr.add_lit, h2 j hj']
        have hb := h.1 xs[j] (List.getElem_mem hj')
        unfold Byt at hb
        simp [hj']
        omega)
    rw [hl] at this
    exact this

theorem ret_bool {x y : Bool} (h : x = y) : Ending.returned (.bool x) = .returned (.bool y) := by rw [h]


/-- The bytes as such. -/
def u8s (xs : List Int) : List UInt8 := xs.map fun n => UInt8.ofNat n.toNat
theorem strOf_list (xs : List Int) : (strOf xs).toList = u8s xs := by rw [strOf, ByteArray.toList_mk]; rfl
theorem strOf_data (xs : List Int) : (strOf xs).data.toList = u8s xs := rfl

/-- One text is ahead of another one. -/
def ltS (xs ys : List Int) : Bool := Op.bytesLess (u8s xs) (u8s ys)

theorem less_cmp : ∀ (a b : List UInt8), Op.bytesLess a b = decide (Lib.compareBytes a b < 0)
  | [], [] => by simp [Op.bytesLess, Lib.compareBytes]
  | [], _ :: _ => by simp [Op.bytesLess, Lib.compareBytes]
  | _ :: _, [] => by simp [Op.bytesLess, Lib.compareBytes]
  | x :: a, y :: b => by
    have ih := less_cmp a b
    unfold Op.bytesLess Lib.compareBytes
    by_cases h1 : x < y
    · simp [h1]
    · by_cases h2 : y < x
      · have h3 : ¬ x = y := fun e => by subst e; exact absurd h2 (UInt8.lt_irrefl _)
        simp [h1, h2, h3]
      · have h3 : x = y := UInt8.le_antisymm (UInt8.not_lt.1 h2) (UInt8.not_lt.1 h1)
        subst h3
        simp [h1, ih]

theorem cmp_range : ∀ (a b : List UInt8), -1 ≤ Lib.compareBytes a b ∧ Lib.compareBytes a b ≤ 1
  | [], [] => by simp [Lib.compareBytes]
  | [], _ :: _ => by simp [Lib.compareBytes]
  | _ :: _, [] => by simp [Lib.compareBytes]
  | x :: a, y :: b => by
    have ih := cmp_range a b
    unfold Lib.compareBytes
    split
    · omega
    · split
      · omega
      · exact ih

theorem load_bytes {P : Program} (w : World) (xs : List Int) : ∀ (b off : Nat) (acc : ByteArray), (∀ i, i < xs.length → w.cell? ⟨b, off + i, none⟩ = some (.int .u8 (xs.getD i 0))) →
    (Extern.Bytes.loadBytes ⟨b, off, none⟩ xs.length acc).run P w = .ok ⟨acc.data ++ (u8s xs).toArray⟩ w := by
  induction xs with
  | nil => intro b off acc _; simp [Extern.Bytes.loadBytes, u8s]
  | cons x xs ih =>
    intro b off acc h
    have h0 := h 0 (by simp)
    simp only [Nat.add_zero, List.getD_cons_zero] at h0
    have h1 := ih b (off + 1) (acc.push x.toNat.toUInt8) (fun i hi => by
      have := h (i + 1) (by simp; omega)
      rw [show off + 1 + i = off + (i + 1) from by omega, this]
      simp)
    have e : (⟨b, off, none⟩ : Addr).add 1 = ⟨b, off + 1, none⟩ := Addr.add_lit b off 1
    simp only [List.length_cons, Extern.Bytes.loadBytes, Sem.run_bind, run_load, h0, Result.andThen, e]
    rw [h1]
    congr 1
    apply ByteArray.ext
    simp [ByteArray.push, u8s]

theorem bytes_of_seg {P : Program} {w : World} {a : Option Addr} {xs : List Int} (cap : Nat) (h : Seg w a xs) : (Extern.Bytes.bytesOf (.slice a xs.length cap)).run P w = .ok (strOf xs) w := by
  cases a with
  | none =>
    have hx : xs = [] := by
      rcases h.2 with h0 | ⟨b, off, h1, _⟩
      · exact h0
      · simp at h1
    subst hx
    rfl
  | some ad =>
    rcases h.2 with h0 | ⟨b, off, h1, h2⟩
    · subst h0
      rfl
    · simp at h1
      subst h1
      have := load_bytes (P := P) w xs b off .empty h2
      have he : (⟨ByteArray.empty.data ++ (u8s xs).toArray⟩ : ByteArray) = strOf xs := by
        apply ByteArray.ext
        show (#[] : Array UInt8) ++ (u8s xs).toArray = _
        simp [strOf, u8s]
      rw [he] at this
      exact this

theorem run_compare_seg {P : Program} {w : World} {a b : Option Addr} {xs ys : List Int} (c1 c2 : Nat) (ha : Seg w a xs) (hb : Seg w b ys) :
    (Extern.BytealgCompare.compare #[.slice a xs.length c1, .slice b ys.length c2]).run P w = .ok (.int .i64 (Lib.compareBytes (u8s xs) (u8s ys))) w := by
  change Sem.run P (do pure (goInt (Extern.BytealgCompare.cmp (← Extern.Bytes.bytesOf (.slice a xs.length c1)) (← Extern.Bytes.bytesOf (.slice b ys.length c2))))) w = _
  simp only [Sem.run_bind, bytes_of_seg c1 ha, bytes_of_seg c2 hb, Sem.run_pure, Result.andThen]
  rw [Lib.cmp_eq]
  rfl

end Go.Proofs.Ytcepgdlnlmhecaa
/-
  The order of texts, as the specification asks it: l2bytes.
-/
namespace Go.Proofs.Ytcepgdlnlmhecaa
open Go.RowKit
set_option linter.unusedVariables false
set_option linter.unusedSimpArgs false

/-- The order of two texts. -/
def bytesC (xs ys : List Int) : Int := Lib.compareBytes (u8s xs) (u8s ys)

theorem cmp_swap : ∀ (a b : List UInt8), Lib.compareBytes b a = - Lib.compareBytes a b
  | [], [] => by simp [Lib.compareBytes]
  | [], _ :: _ => by simp [Lib.compareBytes]
  | _ :: _, [] => by simp [Lib.compareBytes]
  | x :: a, y :: b => by
    have ih := cmp_swap a b
    unfold Lib.compareBytes
    by_cases h1 : x < y
    · have h2 : ¬ y < x := fun h => absurd (UInt8.lt_trans h1 h) (UInt8.lt_irrefl _)
      have h3 : ¬ x = y := fun e => by subst e; exact absurd h1 (UInt8.lt_irrefl _)
      have h4 : ¬ y = x := fun e => h3 e.symm
      simp [h1, h2, h3, h4]
    · by_cases h2 : y < x
      · have h3 : ¬ x = y := fun e => by subst e; exact absurd h2 (UInt8.lt_irrefl _)
        have h4 : ¬ y = x := fun e => h3 e.symm
        simp [h1, h2, h3, h4]
      · have h3 : x = y := UInt8.le_antisymm (UInt8.not_lt.1 h2) (UInt8.not_lt.1 h1)
        subst h3
        simp [h1, ih]

theorem less_ab (xs ys : List Int) : Op.bytesLess (strOf xs).toList (strOf ys).toList = decide (bytesC xs ys < 0) := by rw [strOf_list, strOf_list, less_cmp]; rfl
theorem less_ba (xs ys : List Int) : Op.bytesLess (strOf ys).toList (strOf xs).toList = decide (0 < bytesC xs ys) := by
  rw [strOf_list, strOf_list, less_cmp, cmp_swap]
  show decide (-(bytesC xs ys) < 0) = _
  by_cases h : 0 < bytesC xs ys
  · simp [h]
  · simp [h]
theorem cmp_zero : ∀ (a b : List UInt8), Lib.compareBytes a b = 0 ↔ a = b
  | [], [] => by simp [Lib.compareBytes]
  | [], _ :: _ => by simp [Lib.compareBytes]
  | _ :: _, [] => by simp [Lib.compareBytes]
  | x :: a, y :: b => by
    have ih := cmp_zero a b
    unfold Lib.compareBytes
    by_cases h1 : x < y
    · have h3 : ¬ x = y := fun e => by subst e; exact absurd h1 (UInt8.lt_irrefl _)
      simp [h1, h3]
    · by_cases h2 : y < x
      · have h3 : ¬ x = y := fun e => by subst e; exact absurd h2 (UInt8.lt_irrefl _)
        simp [h1, h2, h3]
      · have h3 : x = y := UInt8.le_antisymm (UInt8.not_lt.1 h2) (UInt8.not_lt.1 h1)
        subst h3
        simp [h1, ih]
theorem same_ab (xs ys : List Int) : ((strOf xs).toList == (strOf ys).toList) = decide (bytesC xs ys = 0) := by
  rw [strOf_list, strOf_list]
  have h := cmp_zero (u8s xs) (u8s ys)
  show _ = decide (Lib.compareBytes (u8s xs) (u8s ys) = 0)
  by_cases e : u8s xs = u8s ys
  · simp [e, h.2 e]
    exact (cmp_zero _ _).2 rfl
  · have : ¬ Lib.compareBytes (u8s xs) (u8s ys) = 0 := fun k => e (h.1 k)
    simp [e, this]
theorem bytesC_cases (xs ys : List Int) : bytesC xs ys = -1 ∨ bytesC xs ys = 0 ∨ bytesC xs ys = 1 := by
  have := cmp_range (u8s xs) (u8s ys)
  have e : bytesC xs ys = Lib.compareBytes (u8s xs) (u8s ys) := rfl
  omega

set_option maxHeartbeats 800000 in
theorem l2bytes_any (a b : Option Addr) (c1 c2 : Nat) (xs ys : List Int) (w : World) (ha : Seg w a xs) (hb : Seg w b ys) :
    Calls Try.prog 37 #[.slice a xs.length c1, .slice b ys.length c2] w fun e w' => e = .returned (.int .i64 (bytesC xs ys)) ∧ w = w' := by
  have k1 := conv_seg c1 ha
  have k2 := conv_seg c2 hb
  have l1 := less_ab xs ys
  have l2 := less_ba xs ys
  have l3 := same_ab xs ys
  rcases bytesC_cases xs ys with h | h | h
  · rw [h] at l1 l2 l3
    simp only [Int.reduceNeg, Int.reduceLT, Int.reduceEq, decide_true, decide_false, Int.lt_irrefl] at l1 l2 l3
    have HO := hide' h
    clear h
    go_enter Try.func37, Try.ntmps37
    go_wp2
    go_ret
    exact ⟨ret_i64 (by rw [HO.out]), rfl⟩
  · rw [h] at l1 l2 l3
    simp only [Int.reduceNeg, Int.reduceLT, Int.reduceEq, decide_true, decide_false, Int.lt_irrefl] at l1 l2 l3
    have HO := hide' h
    clear h
    go_enter Try.func37, Try.ntmps37
    go_wp2
    go_ret
    exact ⟨ret_i64 (by rw [HO.out]), rfl⟩
  · rw [h] at l1 l2 l3
    simp only [Int.reduceNeg, Int.reduceLT, Int.reduceEq, decide_true, decide_false, Int.lt_irrefl] at l1 l2 l3
    have HO := hide' h
    clear h
    go_enter Try.func37, Try.ntmps37
    go_wp2
    go_ret
    exact ⟨ret_i64 (by rw [HO.out]), rfl⟩

end Go.Proofs.Ytcepgdlnlmhecaa
/-
  The order of numbers and of texts, as the specification and as the program ask it: l2num; cmp.Compare at int.
-/
namespace Go.Proofs.Ytcepgdlnlmhecaa
open Go.RowKit
set_option linter.unusedVariables false
set_option linter.unusedSimpArgs false

/-- The order of two numbers. -/
def numC (a b : Int) : Int := if a < b then -1 else if b < a then 1 else 0
theorem numC_lt {a b : Int} (h : a < b) : numC a b = -1 := by simp [numC, h]
theorem numC_gt {a b : Int} (h : b < a) : numC a b = 1 := by
  have : ¬ a < b := by omega
  simp [numC, h, this]
theorem numC_eq (a : Int) : numC a a = 0 := by simp [numC]

set_option maxHeartbeats 800000 in
theorem l2num_any (a b : Int) (w : World) : Calls Try.prog 24 #[.int .i64 a, .int .i64 b] w fun e w' => e = .returned (.int .i64 (numC a b)) ∧ w = w' := by
  by_cases h1 : a < b
  · have HO := hide' (numC_lt h1)
    go_enter Try.func24, Try.ntmps24
    go_wp2
    go_ret
    exact ⟨ret_i64 (by rw [HO.out]), rfl⟩
  · by_cases h2 : b < a
    · have HO := hide' (numC_gt h2)
      go_enter Try.func24, Try.ntmps24
      go_wp2
      go_ret
      exact ⟨ret_i64 (by rw [HO.out]), rfl⟩
    · have h3 : a = b := by omega
      subst h3
      have HO := hide' (numC_eq a)
      go_enter Try.func24, Try.ntmps24
      go_wp2
      go_ret
      exact ⟨ret_i64 (by rw [HO.out]), rfl⟩

set_option maxHeartbeats 800000 in
theorem isNaN_any (a : Int) (w : World) : Calls Try.prog 66 #[.int .i64 a] w fun e w' => e = .returned (.bool false) ∧ w = w' := by
  go_enter Try.func66, Try.ntmps66
  go_wp2
  go_ret
  exact ⟨rfl, rfl⟩

set_option maxHeartbeats 800000 in
theorem cmpInt_any (a b : Int) (w : World) : Calls Try.prog 60 #[.int .i64 a, .int .i64 b] w fun e w' => e = .returned (.int .i64 (numC a b)) ∧ w = w' := by
  have H1 := hide' (isNaN_any a w)
  have H2 := hide' (isNaN_any b w)
  by_cases h1 : a < b
  · have HO := hide' (numC_lt h1)
    go_enter Try.func60, Try.ntmps60
    go_wp2_with fail
    refine H1.out.mono ?_
    rintro e w1 ⟨rfl, e1⟩
    obtain rfl := e1
    go_wp2_with fail
    refine H2.out.mono ?_
    rintro e w1 ⟨rfl, e1⟩
    obtain rfl := e1
    go_wp2
    go_ret
    exact ⟨ret_i64 (by rw [HO.out]), rfl⟩
  · by_cases h2 : b < a
    · have HO := hide' (numC_gt h2)
      go_enter Try.func60, Try.ntmps60
      go_wp2_with fail
      refine H1.out.mono ?_
      rintro e w1 ⟨rfl, e1⟩
      obtain rfl := e1
      go_wp2_with fail
      refine H2.out.mono ?_
      rintro e w1 ⟨rfl, e1⟩
      obtain rfl := e1
      go_wp2
      go_ret
      exact ⟨ret_i64 (by rw [HO.out]), rfl⟩
    · have h3 : a = b := by omega
      subst h3
      have HO := hide' (numC_eq a)
      go_enter Try.func60, Try.ntmps60
      go_wp2_with fail
      refine H1.out.mono ?_
      rintro e w1 ⟨rfl, e1⟩
      obtain rfl := e1
      go_wp2_with fail
      refine H2.out.mono ?_
      rintro e w1 ⟨rfl, e1⟩
      obtain rfl := e1
      go_wp2
      go_ret
      exact ⟨ret_i64 (by rw [HO.out]), rfl⟩

end Go.Proofs.Ytcepgdlnlmhecaa
/-
  cmp.Or at three ints: the first that is not 0.
-/
namespace Go.Proofs.Ytcepgdlnlmhecaa
open Go.RowKit
set_option linter.unusedVariables false
set_option linter.unusedSimpArgs false

/-- The first of three that is not 0. -/
def or3 (a b c : Int) : Int := if a ≠ 0 then a else if b ≠ 0 then b else c

set_option maxHeartbeats 800000 in
theorem or_any (g : Nat) (a b c : Int) (w : World) (h0 : w.cell? ⟨g, 0, none⟩ = some (.int .i64 a)) (h1 : w.cell? ⟨g, 1, none⟩ = some (.int .i64 b)) (h2 : w.cell? ⟨g, 2, none⟩ = some (.int .i64 c)) :
    Calls Try.prog 59 #[.slice (some ⟨g, 0, none⟩) 3 3] w fun e w' => e = .returned (.int .i64 (or3 a b c)) ∧ w = w' := by
  go_enter Try.func59, Try.ntmps59
  go_wp2
  go_loopw [8] (fun i wr => ∃ k : Nat, k ≤ 3 ∧ i = .int .i64 k ∧ (1 ≤ k → a = 0) ∧ (2 ≤ k → b = 0) ∧ (3 ≤ k → c = 0) ∧ wr = w) (fun i _ => 3 - (intOf i).toNat)
  case atStart => exact ⟨0, Nat.zero_le _, rfl, by omega, by omega, by omega, rfl⟩
  case round =>
    obtain ⟨k, hk, rfl, hA, hB, hC, rfl⟩ := hrel
    have hk4 : k = 0 ∨ k = 1 ∨ k = 2 ∨ k = 3 := by omega
    rcases hk4 with rfl | rfl | rfl | rfl
    · by_cases hz : a = 0
      · subst hz
        go_wp2
        go_roundw
        case rel => exact ⟨1, by omega, by go_num, by first | trivial | (intros; first | rfl | trivial | omega), by first | trivial | (intros; first | rfl | trivial | omega), by first | trivial | (intros; first | rfl | trivial | omega), by first | rfl | trivial⟩
        case measure => simp [intOf]
      · have HO : Hid (or3 a b c = a) := by show or3 a b c = a; simp [or3, hz]
        go_wp2
        go_ret
        exact ⟨ret_i64 (by rw [HO.out]), rfl⟩
    · have ha := hA (by omega)
      subst ha
      by_cases hz : b = 0
      · subst hz
        go_wp2
        go_roundw
        case rel => exact ⟨2, by omega, by go_num, by first | trivial | (intros; first | rfl | trivial | omega), by first | trivial | (intros; first | rfl | trivial | omega), by first | trivial | (intros; first | rfl | trivial | omega), by first | rfl | trivial⟩
        case measure => simp [intOf]
      · have HO : Hid (or3 0 b c = b) := by show or3 0 b c = b; simp [or3, hz]
        go_wp2
        go_ret
        exact ⟨ret_i64 (by rw [HO.out]), rfl⟩
    · have ha := hA (by omega)
      subst ha
      have hb := hB (by omega)
      subst hb
      by_cases hz : c = 0
      · subst hz
        go_wp2
        go_roundw
        case rel => exact ⟨3, by omega, by go_num, by first | trivial | (intros; first | rfl | trivial | omega), by first | trivial | (intros; first | rfl | trivial | omega), by first | trivial | (intros; first | rfl | trivial | omega), by first | rfl | trivial⟩
        case measure => simp [intOf]
      · have HO : Hid (or3 0 0 c = c) := by show or3 0 0 c = c; simp [or3]
        go_wp2
        go_ret
        exact ⟨ret_i64 (by rw [HO.out]), rfl⟩
    · have ha := hA (by omega)
      subst ha
      have hb := hB (by omega)
      subst hb
      have hc := hC (by omega)
      subst hc
      have HO : Hid (or3 0 0 0 = 0) := by show or3 0 0 0 = 0; simp [or3]
      go_wp2
      go_ret
      exact ⟨ret_i64 (by rw [HO.out]), rfl⟩
end Go.Proofs.Ytcepgdlnlmhecaa
/-
  toStep, toStepS of the laws: they make a path of their own that holds what their argument holds.
-/
namespace Go.Proofs.Ytcepgdlnlmhecaa
open Go.RowKit
set_option linter.unusedVariables false

theorem infoP : (Try.prog.info? 47).map (fun i => (i.zero, i.size, i.bytes)) = some (some (.agg #[.int .i64 0, .slice none 0 0, .int .i64 0]), 3, 40) := by kernel_rfl

/-- The cells of a block of three that is known. -/
theorem row3 {w : World} {g : Nat} {T : TypeId} {c0 c1 c2 : Value} (h : w.heap[g]? = some (.cells #[c0, c1, c2] T (0, 0))) :
    w.cell? ⟨g, 0, none⟩ = some c0 ∧ w.cell? ⟨g, 1, none⟩ = some c1 ∧ w.cell? ⟨g, 2, none⟩ = some c2 ∧ ∀ j, w.frozen? ⟨g, j, none⟩ = false := by
  refine ⟨?_, ?_, ?_, fun j => frozen_of_row w g j _ T h⟩ <;> rw [cell_of_row w g _ _ T (0, 0) h] <;> rfl

/-- Three blocks, one behind the other. -/
theorem three_boxes (w : World) (o1 o2 o3 : Obj) : (((w.alloc o1).alloc o2).alloc o3).heap[w.heap.size]? = some o1 ∧ (((w.alloc o1).alloc o2).alloc o3).heap[w.heap.size + 1]? = some o2 ∧ (((w.alloc o1).alloc o2).alloc o3).heap[w.heap.size + 1 + 1]? = some o3 ∧ (((w.alloc o1).alloc o2).alloc o3).heap.size = w.heap.size + 3 ∧ Below w.heap.size w (((w.alloc o1).alloc o2).alloc o3) := by
  obtain ⟨h1, h2⟩ := two_boxes w o1 o2
  have z2 := size2 w o1 o2
  have hb : Below ((w.alloc o1).alloc o2).heap.size ((w.alloc o1).alloc o2) (((w.alloc o1).alloc o2).alloc o3) := (Below.refl _ _).alloc (Nat.le_refl _) o3
  refine ⟨(hb.block _ (by omega)).trans h1, (hb.block _ (by omega)).trans h2, ?_, by simp, ((((Below.refl _ _).alloc (Nat.le_refl _) o1).alloc (by simp) o2).alloc (by simp; omega) o3)⟩
  have h := (MapKept.heap_alloc ((w.alloc o1).alloc o2) o3).1
  rw [z2] at h
  exact h

set_option maxHeartbeats 1600000 in
theorem toStep_any (N : Nat) (c0 c1 c2 : Value) (s : Stp) (w : World) (hs : StSeg (fun b => b < N) w (c0, c1, c2) s) (hN : N ≤ w.heap.size) (hz : s.2.1.length ≤ 1048576) :
    Calls Try.prog 38 #[.agg #[c0, c1, c2]] w fun e w' => ∃ d0 d1 d2, e = .returned (.agg #[d0, d1, d2]) ∧ ∃ B, StOwn w' (d0, d1, d2) s B ∧ (∀ b ∈ B, w.heap.size ≤ b ∧ b < w'.heap.size) ∧ B.Nodup ∧ Below w.heap.size w w' := by
  obtain ⟨sk, ss, si⟩ := s
  obtain ⟨e0, ht, e2⟩ := hs
  simp only at e0 ht e2 hz
  subst e0
  subst e2
  have Ht : Hid (∀ w' : World, Below w.heap.size w w' → TSeg (fun b => b < N) w' c1 ss) := fun w' h => ht.agree (agree_below (h.mono hN))
  obtain ⟨a2, cp2, rfl, s2, hl2, hm2, _, _⟩ := ht
  have H3 := hide' (three_boxes w (.cells #[.int .i64 sk, .slice a2 ss.length cp2, .int .i64 si] 72) (.cells #[.int .i64 0, .slice none 0 0, .int .i64 0] 47) (.cells #[.int .i64 sk, .slice none 0 0, .int .i64 0] 47))
  clear s2
  go_enter Try.func38, Try.ntmps38
  go_wp2_with fail
  obtain ⟨hr1, hr2, hr3, hsz, hb0⟩ := H3.out
  generalize ((w.alloc (.cells #[.int .i64 sk, .slice a2 ss.length cp2, .int .i64 si] 72)).alloc (.cells #[.int .i64 0, .slice none 0 0, .int .i64 0] 47)).alloc (.cells #[.int .i64 sk, .slice none 0 0, .int .i64 0] 47) = w0 at *
  obtain ⟨a2', cp2', e2, sT, _⟩ := Ht.out _ hb0
  simp only [Value.slice.injEq, true_and] at e2
  obtain ⟨rfl, rfl⟩ := e2
  refine (toByteS_any _ _ ss _ sT (by omega)).mono ?_
  rintro e w1 ⟨rfl, hB1, b1⟩
  have hT1 := tOwn_new hB1
  have hz1 := b1.size
  obtain ⟨x0, x1, x2, _⟩ := row3 ((b1.block _ (by omega)).trans hr1)
  have hr2' := (b1.block _ (by omega)).trans hr2
  have hr3' := (b1.block _ (by omega)).trans hr3
  obtain ⟨y0, y1, y2, yf⟩ := row3 hr2'
  obtain ⟨z0, z1, z2, zf⟩ := row3 hr3'
  have zf1 := zf 1
  have zf2 := zf 2
  have yf0 := yf 0
  have yf1 := yf 1
  have yf2 := yf 2
  have hlt1 := hT1.lt w0.heap.size (by simp)
  have B1 := Below.on hb0 b1
  have hgS : w.heap.size + 3 ≤ w0.heap.size := by omega
  clear hsz b1 hB1 sT
  generalize w0.heap.size = gS at *
  have hrow : (set3 ((w1.setCell ⟨w.heap.size + 1 + 1, 1, none⟩ (.slice (some ⟨gS, 0, none⟩) ss.length ss.length)).setCell ⟨w.heap.size + 1 + 1, 2, none⟩ (.int .i64 si)) (w.heap.size + 1) 0 (.int .i64 sk) (.slice (some ⟨gS, 0, none⟩) ss.length ss.length) (.int .i64 si)).heap[w.heap.size + 1]? = some (.cells #[.int .i64 sk, .slice (some ⟨gS, 0, none⟩) ss.length ss.length, .int .i64 si] 47 (0, 0)) :=
    set3_heap _ _ _ ((Below.heap_setCell _ _ _ _ (by show w.heap.size + 1 ≠ w.heap.size + 1 + 1; omega)).trans ((Below.heap_setCell w1 _ _ _ (by show w.heap.size + 1 ≠ w.heap.size + 1 + 1; omega)).trans hr2'))
  have hk3 := row3 hrow
  simp only [set3, Nat.zero_add] at hk3
  have Hk3 := hide' hk3
  have HT1 := hide' hT1
  clear hrow hk3 hT1 hr1 hr2 hr3 hr2' hr3' zf yf H3
  go_wp2_with fail
  obtain ⟨u0, u1, u2, _⟩ := Hk3.out
  refine bodyPost_ret (v := .agg #[.int .i64 sk, .slice (some ⟨gS, 0, none⟩) ss.length ss.length, .int .i64 si]) (by simp [results, Try.results38, go_sem, u0, u1, u2]) rfl ?_
  have g1 := grown1 w1 (w.heap.size + 1 + 1) 1 (.slice (some ⟨gS, 0, none⟩) ss.length ss.length)
  have g2 := grown1 (w1.setCell ⟨w.heap.size + 1 + 1, 1, none⟩ (.slice (some ⟨gS, 0, none⟩) ss.length ss.length)) (w.heap.size + 1 + 1) 2 (.int .i64 si)
  have gA := grownBy_trans g1 g2
  have gB := set3_grown ((w1.setCell ⟨w.heap.size + 1 + 1, 1, none⟩ (.slice (some ⟨gS, 0, none⟩) ss.length ss.length)).setCell ⟨w.heap.size + 1 + 1, 2, none⟩ (.int .i64 si)) (w.heap.size + 1) 0 (.int .i64 sk) (.slice (some ⟨gS, 0, none⟩) ss.length ss.length) (.int .i64 si)
  have hs2 : ((w1.setCell ⟨w.heap.size + 1 + 1, 1, none⟩ (.slice (some ⟨gS, 0, none⟩) ss.length ss.length)).setCell ⟨w.heap.size + 1 + 1, 2, none⟩ (.int .i64 si)).heap.size = w1.heap.size := by simp [World.setCell]
  have hs3 := set3_size ((w1.setCell ⟨w.heap.size + 1 + 1, 1, none⟩ (.slice (some ⟨gS, 0, none⟩) ss.length ss.length)).setCell ⟨w.heap.size + 1 + 1, 2, none⟩ (.int .i64 si)) (w.heap.size + 1) 0 (.int .i64 sk) (.slice (some ⟨gS, 0, none⟩) ss.length ss.length) (.int .i64 si)
  have hBf : Below w.heap.size w (set3 ((w1.setCell ⟨w.heap.size + 1 + 1, 1, none⟩ (.slice (some ⟨gS, 0, none⟩) ss.length ss.length)).setCell ⟨w.heap.size + 1 + 1, 2, none⟩ (.int .i64 si)) (w.heap.size + 1) 0 (.int .i64 sk) (.slice (some ⟨gS, 0, none⟩) ss.length ss.length) (.int .i64 si)) :=
    (B1.grown gA B1.size (by intro j hj; simp at hj; omega)).grown gB (by omega) (by intro j hj; simp at hj; omega)
  refine ⟨_, _, _, rfl, [gS], ⟨rfl, HT1.out.agree fun b hb => ?_, rfl⟩, ?_, by simp, hBf⟩
  · simp at hb
    subst hb
    refine (gB.block _ (by omega) (by simp; omega)).trans (gA.block _ hlt1 (by simp; omega))
  · intro b hb
    rw [List.mem_singleton] at hb
    rw [hb]
    show _ ∧ _ < (set3 ((w1.setCell ⟨w.heap.size + 1 + 1, 1, none⟩ (.slice (some ⟨gS, 0, none⟩) ss.length ss.length)).setCell ⟨w.heap.size + 1 + 1, 2, none⟩ (.int .i64 si)) (w.heap.size + 1) 0 (.int .i64 sk) (.slice (some ⟨gS, 0, none⟩) ss.length ss.length) (.int .i64 si)).heap.size
    rw [hs3, hs2]
    omega

theorem StOwn.form {w : World} {c0 c1 c2 : Value} {s : Stp} {B : List Nat} (h : StOwn w (c0, c1, c2) s B) : ∃ (k i : Int) (a : Option Addr) (n p : Nat), c0 = .int .i64 k ∧ c1 = .slice a n p ∧ c2 = .int .i64 i := by
  obtain ⟨e0, ht, e2⟩ := h
  obtain ⟨a2, p2, e1, _⟩ := ht.1.shape
  exact ⟨_, _, _, _, _, e0, e1, e2⟩

set_option maxHeartbeats 1600000 in
theorem toStepS_any (N : Nat) (x : Value) (l : List Stp) (w : World) (hx : PthSeg (fun b => b < N) w x l) (hN : N ≤ w.heap.size) (hz : szP l ≤ 1048576) :
    Calls Try.prog 25 #[x] w fun e w' => ∃ u, e = .returned u ∧ ∃ B, PthOwn w' u l B ∧ (∀ b ∈ B, w.heap.size ≤ b ∧ b < w'.heap.size) ∧ Below w.heap.size w w' := by
  have HC := hide' hx
  obtain ⟨a, cap, rfl, hlc, hcm, ka, hc⟩ := hx
  unfold maxLen at hcm
  obtain ⟨i0, hi, hz0, hz1, hz2⟩ := info_parts infoP
  have hn : l.length ≤ 1048576 := by unfold szP at hz; omega
  have HZ := hide' hz
  clear hc hz
  go_enter Try.func25, Try.ntmps25
  go_wp2_with (refine wpList_make_full _ rfl _ _ 38 rfl w.heap.size 47 i0 (.agg #[.int .i64 0, .slice none 0 0, .int .i64 0]) 3 Try.underlying38 hi hz0 hz1 .i64 .i64 _ _ l.length rfl rfl rfl rfl (by rw [hz2]; omega) (by unfold maxLen; omega) (Nat.le_refl _) ?_; intro w1 hown hgrow)
  have hK0 : PPart w1 w.heap.size l.length l 0 (w.heap.size + 1) := by
    rcases hown.2 with ⟨h1, _⟩ | ⟨g, cp, cur, h1, _, h3, _, _, h6, _⟩
    · simp at h1
    · simp only [Value.slice.injEq, Option.some.injEq, Addr.mk.injEq, and_true, true_and] at h1
      obtain ⟨e1, e2⟩ := h1
      subst e1
      exact ⟨cur, [], h3, by omega, rfl, by intro i _ h; omega, by simp, by simp⟩
  have hb1 : Below w.heap.size w w1 := (Below.refl _ _).grown hgrow (Nat.le_refl _) (by simp)
  clear hown hgrow
  go_loopw [4] (fun i wr => ∃ k : Nat, k ≤ l.length ∧ i = .int .i64 k ∧ PPart wr w.heap.size l.length l k (w.heap.size + 1) ∧ Below w.heap.size w wr) (fun i _ => l.length - (intOf i).toNat)
  case atStart => exact ⟨0, Nat.zero_le _, rfl, hK0, hb1⟩
  case round =>
    obtain ⟨k, hk, rfl, hK, hbel⟩ := hrel
    clear hK0 hb1
    by_cases hlt : k < l.length
    · have hlt' : (k : Int) < (l.length : Int) := by omega
      obtain ⟨b, off, e0, e1, e2, rfl, _, h3, hv⟩ := (HC.out.agree (agree_below (hbel.mono hN))).at hlt
      obtain ⟨q0, q1, q2⟩ := h3
      simp only at q0 q1 q2
      have HV := hide' hv
      clear hv
      have hzk := hide' (Nat.le_trans (szP_elem hlt) HZ.out)
      have hgw : w.heap.size < wr.heap.size := by
        obtain ⟨cur, Bs, h1, _⟩ := hK
        exact (Array.getElem?_eq_some_iff.1 h1).1
      go_wp2_with fail
      refine (toStep_any N e0 e1 e2 l[k] wr HV.out (by omega) hzk.out).mono ?_
      rintro e w2 ⟨c0, c1, c2, rfl, B, hB2, hBb, hBn, b2⟩
      clear q0 q1 q2 HV
      obtain ⟨ck, ci, s2, l2, p2, rfl, rfl, rfl⟩ := hB2.form
      have hcells : ∃ cur : Array Value, w2.heap[w.heap.size]? = some (.cells cur 47 (0, 0)) ∧ cur.size = l.length * 3 := by
        obtain ⟨cur, Bs, h1, h2, _⟩ := hK
        exact ⟨cur, (b2.block _ hgw).trans h1, h2⟩
      obtain ⟨cur, hcur, hcs⟩ := hcells
      have hx : ∀ j, j < l.length * 3 → ∃ x, w2.cell? ⟨w.heap.size, j, none⟩ = some x := by
        intro j hj
        rw [cell_of_row w2 _ j cur _ (0, 0) hcur]
        exact ⟨_, Array.getElem?_eq_getElem (by omega)⟩
      have hf : ∀ j, w2.frozen? ⟨w.heap.size, j, none⟩ = false := fun j => frozen_of_row w2 _ j cur _ hcur
      obtain ⟨x0, hx0⟩ := hx (k * 3) (by omega)
      obtain ⟨x1, hx1⟩ := hx (k * 3 + 1) (by omega)
      obtain ⟨x2, hx2⟩ := hx (k * 3 + 2) (by omega)
      have f0 := hf (k * 3)
      have f1 := hf (k * 3 + 1)
      have f2 := hf (k * 3 + 2)
      have hL := pPart_next hK (by omega) hlt hlt b2 (by omega) _ _ _ B hB2 hBb hBn
      have hb2 := Below.on hbel b2
      have hb3 := hb2.grown (set3_grown w2 w.heap.size (k * 3) (.int .i64 ck) (.slice s2 l2 p2) (.int .i64 ci)) hb2.size (by intro j hj; simp at hj; omega)
      have HL := hide' hL
      have HB := hide' hb3
      clear hx hf hcur hL hb2 hb3 hK hB2
      go_wp2
      go_roundw
      case rel => exact ⟨k + 1, by omega, by go_num, HL.out, HB.out⟩
      case measure => simp [intOf]; omega
    · have hkn : k = l.length := by omega
      have hkn' : ¬ (k : Int) < (l.length : Int) := by omega
      rw [hkn] at hK
      clear hkn
      go_wp2
      go_ret
      obtain ⟨cur, Bi, h1, h2, h3, h4, h5, h6⟩ := hK
      have hgw := (Array.getElem?_eq_some_iff.1 h1).1
      refine ⟨_, rfl, w.heap.size :: Bi.flatten, ⟨w.heap.size, l.length, cur, Bi, rfl, h1, Nat.le_refl _, by unfold maxLen; omega, h2, h3, fun i h => h4 i h h, rfl, ?_⟩, ?_, hbel⟩
      · rw [List.nodup_cons]
        exact ⟨fun hm => by have := h5 _ hm; omega, h6⟩
      · intro b hb
        rcases List.mem_cons.1 hb with rfl | hb
        · exact ⟨Nat.le_refl _, hgw⟩
        · have := h5 b hb
          omega
end Go.Proofs.Ytcepgdlnlmhecaa
