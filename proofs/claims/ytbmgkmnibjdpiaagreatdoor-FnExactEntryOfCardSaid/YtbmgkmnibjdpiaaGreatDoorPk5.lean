/-
  Texts that a law leans on, one behind the other; no statement is proved here.
-/
import Derived.Test.YtbmgkmnibjdpiaaGreatDoorPk4
import Derived.Test.YtbmgkmnibjdpiaaGreatDoorPk3
import Derived.Deep.MidRow
import Derived.Deep.Cut
/-
  Records: what nine cells of memory read as; lists of them.
-/
namespace Go.Proofs.YtbmgkmnibjdpiaaGreatDoor
open Go.RowKit
set_option linter.unusedVariables false
set_option linter.unusedSimpArgs false

/-- A record: kind, name, many, by, names, expressions. -/
def Rcd (d : Nat) : Type := Int × List Int × Int × Vl d × List (List Int)

/-- Nine cells that read as a record. -/
def RSg (R : Nat → Prop) (w : World) (d : Nat) (cs : List Value) (it : Rcd d) : Prop :=
  ∃ c1 c3 c4 c5 c6 c7 c8, cs = [.int .i64 it.1, c1, .int .i64 it.2.2.1, c3, c4, c5, c6, c7, c8] ∧ TSeg R w c1 it.2.1 ∧ VSeg R w d (c3, c4, c5, c6, c7) it.2.2.2.1 ∧ KSeg R w c8 it.2.2.2.2

/-- A list of records, read. -/
def RLSg (R : Nat → Prop) (w : World) (d : Nat) (x : Value) (l : List (Rcd d)) : Prop :=
  ∃ a cap, x = .slice a l.length cap ∧ l.length ≤ cap ∧ cap ≤ maxLen ∧ (a = none → cap = 0) ∧ (l = [] ∨ ∃ b off, a = some ⟨b, off, none⟩ ∧ R b ∧ ∀ i (h : i < l.length), ∃ cs, w.rangeAt b (off + i * 9) cs ∧ RSg R w d cs l[i])

theorem range_agree {R : Nat → Prop} {w w' : World} {b o : Nat} {cs : List Value} (h : w.rangeAt b o cs) (ha : Agree R w w') (hb : R b) : w'.rangeAt b o cs := fun j v hv => (World.cell?_of_block (ha b hb)).trans (h j v hv)

theorem RSg.agree {R : Nat → Prop} {w w' : World} {d : Nat} {cs : List Value} {it : Rcd d} (h : RSg R w d cs it) (ha : Agree R w w') : RSg R w' d cs it := by
  obtain ⟨c1, c3, c4, c5, c6, c7, c8, e, h1, h2, h3⟩ := h
  exact ⟨c1, c3, c4, c5, c6, c7, c8, e, h1.agree ha, VSeg.agree ha d h2, h3.agree ha⟩
theorem RSg.mono {R R' : Nat → Prop} {w : World} {d : Nat} {cs : List Value} {it : Rcd d} (h : RSg R w d cs it) (hr : ∀ b, R b → R' b) : RSg R' w d cs it := by
  obtain ⟨c1, c3, c4, c5, c6, c7, c8, e, h1, h2, h3⟩ := h
  exact ⟨c1, c3, c4, c5, c6, c7, c8, e, h1.mono hr, VSeg.mono hr d h2, h3.mono hr⟩
theorem RLSg.agree {R : Nat → Prop} {w w' : World} {d : Nat} {x : Value} {l : List (Rcd d)} (h : RLSg R w d x l) (ha : Agree R w w') : RLSg R w' d x l := by
  obtain ⟨a, cap, e, h1, h2, h3, h4⟩ := h
  refine ⟨a, cap, e, h1, h2, h3, ?_⟩
  rcases h4 with h0 | ⟨b, off, ea, hb, hc⟩
  · exact .inl h0
  · refine .inr ⟨b, off, ea, hb, fun i hi => ?_⟩
    obtain ⟨cs, hr, hv⟩ := hc i hi
    exact ⟨cs, range_agree hr ha hb, hv.agree ha⟩
theorem RLSg.at {R : Nat → Prop} {w : World} {d : Nat} {a : Option Addr} {n cap : Nat} {l : List (Rcd d)} (h : RLSg R w d (.slice a n cap) l) {k : Nat} (hk : k < l.length) :
    ∃ b off cs, a = some ⟨b, off, none⟩ ∧ R b ∧ w.rangeAt b (off + k * 9) cs ∧ RSg R w d cs l[k] := by
  obtain ⟨a', cap', g1, _, _, _, g5⟩ := h
  simp only [Value.slice.injEq] at g1
  obtain ⟨rfl, _, _⟩ := g1
  rcases g5 with e | ⟨b, off, hb, hR, hc⟩
  · rw [e] at hk; simp at hk
  · obtain ⟨cs, hr, hv⟩ := hc k hk
    exact ⟨b, off, cs, hb, hR, hr, hv⟩
theorem RLSg.form {R : Nat → Prop} {w : World} {d : Nat} {x : Value} {l : List (Rcd d)} (h : RLSg R w d x l) : ∃ a p, x = .slice a l.length p := by
  obtain ⟨a, cap, h1, _⟩ := h
  exact ⟨_, _, h1⟩

/-- The nine cells, in full. -/
theorem RSg.form {R : Nat → Prop} {w : World} {d : Nat} {cs : List Value} {it : Rcd d} (h : RSg R w d cs it) :
    ∃ (na : Option Addr) (np : Nat) (bk bn : Int) (a2 : Option Addr) (l2 p2 : Nat) (a3 : Option Addr) (l3 p3 : Nat) (a4 : Option Addr) (l4 p4 : Nat) (xa : Option Addr) (xp : Nat),
      cs = [.int .i64 it.1, .slice na it.2.1.length np, .int .i64 it.2.2.1, .int .i64 bk, .int .i64 bn, .slice a2 l2 p2, .slice a3 l3 p3, .slice a4 l4 p4, .slice xa it.2.2.2.2.length xp] ∧
      TSeg R w (.slice na it.2.1.length np) it.2.1 ∧ VSeg R w d (.int .i64 bk, .int .i64 bn, .slice a2 l2 p2, .slice a3 l3 p3, .slice a4 l4 p4) it.2.2.2.1 ∧ KSeg R w (.slice xa it.2.2.2.2.length xp) it.2.2.2.2 := by
  obtain ⟨c1, c3, c4, c5, c6, c7, c8, rfl, h1, h2, h3⟩ := h
  obtain ⟨bk, bn, a2, l2, p2, a3, l3, p3, a4, l4, p4, rfl, rfl, rfl, rfl, rfl⟩ := VSeg.form d h2
  have h1' := h1
  have h3' := h3
  obtain ⟨na, np, rfl, _⟩ := h1
  obtain ⟨xa, xp, rfl, _⟩ := h3
  exact ⟨na, np, bk, bn, a2, l2, p2, a3, l3, p3, a4, l4, p4, xa, xp, rfl, h1', h2, h3'⟩

theorem RSg.len {R : Nat → Prop} {w : World} {d : Nat} {cs : List Value} {it : Rcd d} (h : RSg R w d cs it) : cs.length = 9 := by
  obtain ⟨_, _, _, _, _, _, _, _, _, _, _, _, _, _, _, rfl, _⟩ := h.form
  rfl
theorem RSg.one {R : Nat → Prop} {w : World} {d : Nat} {cs : List Value} {it : Rcd d} (h : RSg R w d cs it) : ∀ v ∈ cs, v.oneCell' = true := by
  obtain ⟨_, _, _, _, _, _, _, _, _, _, _, _, _, _, _, rfl, _⟩ := h.form
  intro v hv
  simp only [List.mem_cons, List.not_mem_nil, or_false] at hv
  rcases hv with rfl | rfl | rfl | rfl | rfl | rfl | rfl | rfl | rfl <;> rfl

/-- A record's parts are none too great. -/
def RSz (d : Nat) (it : Rcd d) : Prop := it.2.1.length ≤ 1048576 ∧ szV d it.2.2.2.1 ≤ 1048576 ∧ szK it.2.2.2.2 ≤ 1048576

end Go.Proofs.YtbmgkmnibjdpiaaGreatDoor
/-
  Entrys: what nine cells of memory read as; lists of them.
-/
namespace Go.Proofs.YtbmgkmnibjdpiaaGreatDoor
open Go.RowKit
set_option linter.unusedVariables false
set_option linter.unusedSimpArgs false

/-- An entry: address, value, what it hangs on, taint, turned. -/
def Ntr (d : Nat) : Type := List Int × Vl d × List (List Int) × Bool × Int

/-- Nine cells that read as an entry. -/
def NtSg (R : Nat → Prop) (w : World) (d : Nat) (cs : List Value) (it : Ntr d) : Prop :=
  ∃ c1 c3 c4 c5 c6 c7 c8, cs = [c1, c3, c4, c5, c6, c7, c8, .bool it.2.2.2.1, .int .i64 it.2.2.2.2] ∧ TSeg R w c1 it.1 ∧ VSeg R w d (c3, c4, c5, c6, c7) it.2.1 ∧ KSeg R w c8 it.2.2.1

/-- A list of entries, read. -/
def NtLS (R : Nat → Prop) (w : World) (d : Nat) (x : Value) (l : List (Ntr d)) : Prop :=
  ∃ a cap, x = .slice a l.length cap ∧ l.length ≤ cap ∧ cap ≤ maxLen ∧ (a = none → cap = 0) ∧ (l = [] ∨ ∃ b off, a = some ⟨b, off, none⟩ ∧ R b ∧ ∀ i (h : i < l.length), ∃ cs, w.rangeAt b (off + i * 9) cs ∧ NtSg R w d cs l[i])

theorem NtSg.agree {R : Nat → Prop} {w w' : World} {d : Nat} {cs : List Value} {it : Ntr d} (h : NtSg R w d cs it) (ha : Agree R w w') : NtSg R w' d cs it := by
  obtain ⟨c1, c3, c4, c5, c6, c7, c8, e, h1, h2, h3⟩ := h
  exact ⟨c1, c3, c4, c5, c6, c7, c8, e, h1.agree ha, VSeg.agree ha d h2, h3.agree ha⟩
theorem NtSg.mono {R R' : Nat → Prop} {w : World} {d : Nat} {cs : List Value} {it : Ntr d} (h : NtSg R w d cs it) (hr : ∀ b, R b → R' b) : NtSg R' w d cs it := by
  obtain ⟨c1, c3, c4, c5, c6, c7, c8, e, h1, h2, h3⟩ := h
  exact ⟨c1, c3, c4, c5, c6, c7, c8, e, h1.mono hr, VSeg.mono hr d h2, h3.mono hr⟩
theorem NtLS.agree {R : Nat → Prop} {w w' : World} {d : Nat} {x : Value} {l : List (Ntr d)} (h : NtLS R w d x l) (ha : Agree R w w') : NtLS R w' d x l := by
  obtain ⟨a, cap, e, h1, h2, h3, h4⟩ := h
  refine ⟨a, cap, e, h1, h2, h3, ?_⟩
  rcases h4 with h0 | ⟨b, off, ea, hb, hc⟩
  · exact .inl h0
  · refine .inr ⟨b, off, ea, hb, fun i hi => ?_⟩
    obtain ⟨cs, hr, hv⟩ := hc i hi
    exact ⟨cs, range_agree hr ha hb, hv.agree ha⟩
theorem NtLS.at {R : Nat → Prop} {w : World} {d : Nat} {a : Option Addr} {n cap : Nat} {l : List (Ntr d)} (h : NtLS R w d (.slice a n cap) l) {k : Nat} (hk : k < l.length) :
    ∃ b off cs, a = some ⟨b, off, none⟩ ∧ R b ∧ w.rangeAt b (off + k * 9) cs ∧ NtSg R w d cs l[k] := by
  obtain ⟨a', cap', g1, _, _, _, g5⟩ := h
  simp only [Value.slice.injEq] at g1
  obtain ⟨rfl, _, _⟩ := g1
  rcases g5 with e | ⟨b, off, hb, hR, hc⟩
  · rw [e] at hk; simp at hk
  · obtain ⟨cs, hr, hv⟩ := hc k hk
    exact ⟨b, off, cs, hb, hR, hr, hv⟩
theorem NtLS.form {R : Nat → Prop} {w : World} {d : Nat} {x : Value} {l : List (Ntr d)} (h : NtLS R w d x l) : ∃ a p, x = .slice a l.length p := by
  obtain ⟨a, cap, h1, _⟩ := h
  exact ⟨_, _, h1⟩

/-- The nine cells, in full. -/
theorem NtSg.form {R : Nat → Prop} {w : World} {d : Nat} {cs : List Value} {it : Ntr d} (h : NtSg R w d cs it) :
    ∃ (na : Option Addr) (np : Nat) (bk bn : Int) (a2 : Option Addr) (l2 p2 : Nat) (a3 : Option Addr) (l3 p3 : Nat) (a4 : Option Addr) (l4 p4 : Nat) (xa : Option Addr) (xp : Nat),
      cs = [.slice na it.1.length np, .int .i64 bk, .int .i64 bn, .slice a2 l2 p2, .slice a3 l3 p3, .slice a4 l4 p4, .slice xa it.2.2.1.length xp, .bool it.2.2.2.1, .int .i64 it.2.2.2.2] ∧
      TSeg R w (.slice na it.1.length np) it.1 ∧ VSeg R w d (.int .i64 bk, .int .i64 bn, .slice a2 l2 p2, .slice a3 l3 p3, .slice a4 l4 p4) it.2.1 ∧ KSeg R w (.slice xa it.2.2.1.length xp) it.2.2.1 := by
  obtain ⟨c1, c3, c4, c5, c6, c7, c8, rfl, h1, h2, h3⟩ := h
  obtain ⟨bk, bn, a2, l2, p2, a3, l3, p3, a4, l4, p4, rfl, rfl, rfl, rfl, rfl⟩ := VSeg.form d h2
  have h1' := h1
  have h3' := h3
  obtain ⟨na, np, rfl, _⟩ := h1
  obtain ⟨xa, xp, rfl, _⟩ := h3
  exact ⟨na, np, bk, bn, a2, l2, p2, a3, l3, p3, a4, l4, p4, xa, xp, rfl, h1', h2, h3'⟩

theorem NtSg.len {R : Nat → Prop} {w : World} {d : Nat} {cs : List Value} {it : Ntr d} (h : NtSg R w d cs it) : cs.length = 9 := by
  obtain ⟨_, _, _, _, _, _, _, _, _, _, _, _, _, _, _, rfl, _⟩ := h.form
  rfl
theorem NtSg.one {R : Nat → Prop} {w : World} {d : Nat} {cs : List Value} {it : Ntr d} (h : NtSg R w d cs it) : ∀ v ∈ cs, v.oneCell' = true := by
  obtain ⟨_, _, _, _, _, _, _, _, _, _, _, _, _, _, _, rfl, _⟩ := h.form
  intro v hv
  simp only [List.mem_cons, List.not_mem_nil, or_false] at hv
  rcases hv with rfl | rfl | rfl | rfl | rfl | rfl | rfl | rfl | rfl <;> rfl

/-- An entry's parts are none too great. -/
def NtSz (d : Nat) (it : Ntr d) : Prop := it.1.length ≤ 1048576 ∧ szV d it.2.1 ≤ 1048576 ∧ szK it.2.2.1 ≤ 1048576

set_option maxHeartbeats 3200000 in
set_option maxRecDepth 100000 in
theorem szEntry_any (d N : Nat) (cs : List Value) (it : Ntr d) (n : Int) (w : World) (h : NtSg (fun b => b < N) w d cs it) (hN : N ≤ w.heap.size) (h0 : 0 ≤ n) (h1 : n ≤ 1048576) :
    Calls Tryz.prog 39 #[.agg cs.toArray, .int .i64 n] w fun e w' => (e = .returned (.int .i64 (-1)) ∨ ∃ m : Int, 0 ≤ m ∧ m ≤ n ∧ e = .returned (.int .i64 m) ∧ NtSz d it) ∧ Below w.heap.size w w' := by
  obtain ⟨na, np, bk, bn, a2, l2, p2, a3, l3, p3, a4, l4, p4, xa, xp, rfl, ht, hv, hk⟩ := h.form
  obtain ⟨nm, by', ks, tn, tu⟩ := it
  simp only at ht hv hk ⊢
  have HB : Hid (∀ o : Obj, Below w.heap.size w (w.alloc o)) := fun o => (Below.refl _ _).alloc (Nat.le_refl _) o
  have hnm : nm.length ≤ maxLen := by obtain ⟨a, c, e, _, h2, h3, _⟩ := ht; omega
  have HT : Hid (∀ wx, Calls Tryz.prog 19 #[.slice na nm.length np, .int .i64 n] wx fun e w' => e = .returned (.int .i64 (less n nm.length)) ∧ wx = w') := fun wx => szByteS_any na nm.length np n wx h0 h1 hnm
  have HV : Hid (∀ (m : Int) wx, 0 ≤ m → m ≤ 1048576 → Below w.heap.size w wx → Calls Tryz.prog 54 #[.agg #[.int .i64 bk, .int .i64 bn, .slice a2 l2 p2, .slice a3 l3 p3, .slice a4 l4 p4], .int .i64 m] wx fun e w' => e = .returned (.int .i64 (less m (szV d by'))) ∧ Below wx.heap.size wx w') := fun m wx g0 g1 hb =>
    szValue_any d N (.int .i64 bk, .int .i64 bn, .slice a2 l2 p2, .slice a3 l3 p3, .slice a4 l4 p4) by' m wx (VSeg.agree (agree_below (hb.mono hN)) d hv) (by have := hb.size; omega) g0 g1
  have HK : Hid (∀ (m : Int) wx, 0 ≤ m → m ≤ 1048576 → Below w.heap.size w wx → Calls Tryz.prog 55 #[.slice xa ks.length xp, .int .i64 m] wx fun e w' => e = .returned (.int .i64 (less m (szK ks))) ∧ wx = w') := fun m wx g0 g1 hb => szByteSS_any _ _ ks m wx (hk.agree (agree_below (hb.mono hN))) g0 g1

  have Hbox : Hid (∀ o wx, Below (w.alloc o).heap.size (w.alloc o) wx → wx.heap[w.heap.size]? = some o) := fun o wx h => box_row h
  clear ht hv hk h
  unfold NtSz
  simp only
  generalize szV d by' = s1 at *
  generalize szK ks = s2 at *
  generalize nm.length = s0 at *
  generalize ks.length = kl at *
  go_enter Tryz.func39, Tryz.ntmps39
  go_wp2_with fail
  refine (HT.out _).mono ?_
  rintro e w1 ⟨rfl, rfl⟩
  by_cases q0 : n < (s0 : Int)
  · rw [less_no _ _ q0]
    go_wp2
    go_ret
    exact ⟨.inl rfl, HB.out _⟩
  rw [less_yes _ _ q0]
  obtain ⟨n1, e1⟩ : ∃ m : Int, m = n - s0 := ⟨_, rfl⟩
  rw [← e1]
  have g10 : 0 ≤ n1 := by omega
  have g11 : n1 ≤ 1048576 := by omega
  have z0 : s0 ≤ 1048576 := by omega
  have y1 : n1 ≤ n := by omega
  clear e1 q0
  go_wp2_with fail
  refine (HV.out n1 _ g10 g11 (HB.out _)).mono ?_
  rintro e w2 ⟨rfl, b2⟩
  by_cases q1 : n1 < (s1 : Int)
  · rw [less_no _ _ q1]
    have B2 := hide' (Below.on (HB.out _) b2)
    clear b2
    go_wp2
    go_ret
    exact ⟨.inl rfl, B2.out⟩
  rw [less_yes _ _ q1]
  obtain ⟨n2, e2⟩ : ∃ m : Int, m = n1 - s1 := ⟨_, rfl⟩
  rw [← e2]
  have g20 : 0 ≤ n2 := by omega
  have g21 : n2 ≤ 1048576 := by omega
  have z1 : s1 ≤ 1048576 := by omega
  have y2 : n2 ≤ n := by omega
  have hr2 := Hbox.out _ _ b2
  have x8 : w2.cell? ⟨w.heap.size, 6, none⟩ = some (.slice xa kl xp) := by rw [cell_of_row _ _ 6 _ _ _ hr2]; rfl
  have B2 := hide' (Below.on (HB.out _) b2)
  clear e2 q1 hr2 b2
  go_wp2_with fail
  refine (HK.out n2 _ g20 g21 B2.out).mono ?_
  rintro e w3 ⟨rfl, rfl⟩
  by_cases q2 : n2 < (s2 : Int)
  · rw [less_no _ _ q2]
    go_wp2
    go_ret
    exact ⟨.inl rfl, B2.out⟩
  rw [less_yes _ _ q2]
  obtain ⟨n3, e3⟩ : ∃ m : Int, m = n2 - s2 := ⟨_, rfl⟩
  rw [← e3]
  have g30 : 0 ≤ n3 := by omega
  have g31 : n3 ≤ 1048576 := by omega
  have z2 : s2 ≤ 1048576 := by omega
  have y3 : n3 ≤ n := by omega
  clear e3 q2
  go_wp2
  go_ret
  exact ⟨.inr ⟨n3, g30, y3, rfl, z0, z1, z2⟩, B2.out⟩

end Go.Proofs.YtbmgkmnibjdpiaaGreatDoor
/-
  szItemS: a list of entries is not too great.
-/
namespace Go.Proofs.YtbmgkmnibjdpiaaGreatDoor
open Go.RowKit
set_option linter.unusedVariables false
set_option linter.unusedSimpArgs false

theorem info_laws_Entry {n : Nat} (h : n = 9) : (Tryz.prog.info? 72).map (·.size) = some n := by rw [h]; kernel_rfl
theorem info_Entry {n : Nat} (h : n = 9) : (Tryz.prog.info? 39).map (·.size) = some n := by rw [h]; kernel_rfl


/-- What szEntryS leaves. -/
def SzNtE (d : Nat) (l : List (Ntr d)) (w : World) (e : Ending) (w' : World) : Prop := (e = .returned (.int .i64 (-1)) ∨ ∃ n : Int, 0 ≤ n ∧ n ≤ 1048576 ∧ e = .returned (.int .i64 n) ∧ l.length ≤ 1048576 ∧ ∀ i (h : i < l.length), NtSz d l[i]) ∧ Below w.heap.size w w'

set_option maxHeartbeats 3200000 in
set_option maxRecDepth 100000 in
theorem szEntryS_any (d N : Nat) (x : Value) (l : List (Ntr d)) (lf : Int) (h0 : 0 ≤ lf) (h1 : lf ≤ 1048576) (w : World) (hx : NtLS (fun b => b < N) w d x l) (hN : N ≤ w.heap.size) :
    Calls Tryz.prog 20 #[x, .int .i64 lf] w (SzNtE d l w) := by
  have HX := hide' hx
  obtain ⟨a, cap, rfl, hlc, hcm, _, _⟩ := hx
  unfold maxLen at hcm
  by_cases hl : lf - (l.length : Int) < 0
  · go_enter Tryz.func20, Tryz.ntmps20
    go_wp2
    go_ret
    exact ⟨.inl rfl, Below.refl _ _⟩
  have hll : l.length ≤ 1048576 := by omega
  go_enter Tryz.func20, Tryz.ntmps20
  go_wp2
  go_loopw [1, 5] (fun n i wr => ∃ (k : Nat) (m : Int), k ≤ l.length ∧ n = .int .i64 m ∧ 0 ≤ m ∧ m ≤ 1048576 ∧ i = .int .i64 k ∧ Below w.heap.size w wr ∧ Hid (∀ j (h : j < l.length), j < k → NtSz d l[j])) (fun _ i _ => l.length - (intOf i).toNat)
  case atStart => exact ⟨0, _, Nat.zero_le _, rfl, by omega, by omega, rfl, Below.refl _ _, fun j h h' => by omega⟩
  case round =>
    obtain ⟨k, m, hk, rfl, hm0, hm1, rfl, hbel, hall⟩ := hrel
    have hz := hbel.size
    by_cases hlt : k < l.length
    · have hlt' : (k : Int) < (l.length : Int) := by omega
      have hXr := HX.out.agree (agree_below (hbel.mono hN))
      obtain ⟨b, off, cs, rfl, hbN, hr, hs⟩ := hXr.at hlt
      have HC := hide' (szEntry_any d N cs l[k] m wr hs (by omega) hm0 hm1)
      have hlen := hs.len
      clear hs hXr
      go_wp2_with (refine wpList_load_mid rfl 72 (.tmp 20) (by rfl) b (off + k * 9) (by rfl) cs _ hr Tryz.underlying72 rfl (info_laws_Entry hlen) ?_)
      refine HC.out.mono ?_
      rintro e w1 ⟨hcase, b1⟩
      have B1 := Below.on hbel b1
      clear hr b1
      rcases hcase with rfl | ⟨q, hq0, hq1, rfl, hI⟩
      · go_wp2
        go_ret
        exact ⟨.inl rfl, B1⟩
      · have HA : Hid (∀ j (h : j < l.length), j < k + 1 → NtSz d l[j]) := fun j h h' => by
          by_cases e : j = k
          · subst e; exact hI
          · exact hall.out j h (by omega)
        clear hI hall
        go_wp2
        go_roundw
        case rel => exact ⟨k + 1, q, by omega, rfl, hq0, by omega, by go_num, B1, HA⟩
        case measure => simp [intOf]; omega
    · have hlt' : ¬ (k : Int) < (l.length : Int) := by omega
      have HA : Hid (∀ j (h : j < l.length), NtSz d l[j]) := fun j h => hall.out j h (by omega)
      clear hall
      go_wp2
      go_ret
      exact ⟨.inr ⟨m, hm0, hm1, rfl, hll, HA.out⟩, hbel⟩

end Go.Proofs.YtbmgkmnibjdpiaaGreatDoor
/-
  szItemS: a list of records is not too great.
-/
namespace Go.Proofs.YtbmgkmnibjdpiaaGreatDoor
open Go.RowKit
set_option linter.unusedVariables false
set_option linter.unusedSimpArgs false

/-- What szActS leaves. -/
def SzREnd (d : Nat) (l : List (Rcd d)) (w : World) (e : Ending) (w' : World) : Prop := (e = .returned (.int .i64 (-1)) ∨ ∃ n : Int, 0 ≤ n ∧ n ≤ 1048576 ∧ e = .returned (.int .i64 n) ∧ l.length ≤ 1048576 ∧ ∀ i (h : i < l.length), RSz d l[i]) ∧ Below w.heap.size w w'

end Go.Proofs.YtbmgkmnibjdpiaaGreatDoor
/-
  A function that copies a struct: the argument's box, the answer's, the variable's; and rows of cells by ranges.
-/
namespace Go.Proofs.YtbmgkmnibjdpiaaGreatDoor
open Go.RowKit
set_option linter.unusedVariables false
set_option linter.unusedSimpArgs false

theorem range_of_row {w : World} {g : Nat} {cs : List Value} {T : TypeId} {fr : Nat × Nat} (h : w.heap[g]? = some (.cells cs.toArray T fr)) : w.rangeAt g 0 cs := fun j v hv => by
  rw [Nat.zero_add, cell_of_row w g j _ _ _ h]
  simpa using hv
theorem there_of_row {w : World} {g : Nat} {cs : Array Value} {T : TypeId} (h : w.heap[g]? = some (.cells cs T (0, 0))) : w.there g 0 cs.size := fun j hj => by
  rw [Nat.zero_add, cell_of_row w g j _ _ _ h]
  exact ⟨by simp [hj], frozen_of_row _ _ _ _ _ h⟩
theorem results_cell {P : Program} {fn : Func} {tmps : Array Value} {w : World} {v : Value} {ad : Addr} (s : Nat) (t : TypeId) (hr : fn.results = #[.cell s t]) (hp : tmps.getD s undef = .pointer (some ad)) (hl : (loadVar t ad).run P w = .ok v w) : (results fn tmps).run P w = .ok v w := by
  unfold results
  rw [hr]
  simp only [Array.mapM_eq_mapM_toList, List.mapM_cons, List.mapM_nil, Sem.run_bind, Sem.run_pure, Result.andThen_ok, hp]
  simp [asAddr, hl]
theorem grown_setCells (g : Nat) : ∀ (vs : List Value) (o : Nat) (w : World), w.grownBy (w.setCells g o vs) (some g)
  | [], _, w => World.grownBy.refl w _
  | v :: r, o, w => grownBy_trans (grown1 w g o v) (grown_setCells g r (o + 1) (w.setCell ⟨g, o, none⟩ v))

/-- The three boxes. -/
def BxSt (w : World) (T1 T2 : TypeId) (arg zer cur : Array Value) (wx : World) : Prop :=
  Below w.heap.size w wx ∧ wx.heap[w.heap.size]? = some (.cells arg T1 (0, 0)) ∧ wx.heap[w.heap.size + 1]? = some (.cells zer T2 (0, 0)) ∧ wx.heap[w.heap.size + 1 + 1]? = some (.cells cur T2 (0, 0)) ∧ w.heap.size + 3 ≤ wx.heap.size

theorem bx_start (w : World) (T1 T2 : TypeId) (arg zer cur : Array Value) : BxSt w T1 T2 arg zer cur (((w.alloc (.cells arg T1)).alloc (.cells zer T2)).alloc (.cells cur T2)) := by
  refine ⟨(((Below.refl _ _).alloc (Nat.le_refl _) _).alloc (by simp) _).alloc (by simp; omega) _, ?_, ?_, ?_, by simp⟩
  · rw [Below.heap_alloc _ _ _ (by simp; omega), Below.heap_alloc _ _ _ (by simp)]
    exact (MapKept.heap_alloc w _).1
  · rw [Below.heap_alloc _ _ _ (by simp)]
    have := (MapKept.heap_alloc (w.alloc (.cells arg T1)) (.cells zer T2)).1
    simpa using this
  · have := (MapKept.heap_alloc ((w.alloc (.cells arg T1)).alloc (.cells zer T2)) (.cells cur T2)).1
    simpa using this
theorem bx_below {w wx w1 : World} {T1 T2 : TypeId} {arg zer cur : Array Value} (h : BxSt w T1 T2 arg zer cur wx) (b : Below wx.heap.size wx w1) : BxSt w T1 T2 arg zer cur w1 := by
  obtain ⟨h1, h2, h3, h4, h5⟩ := h
  have hz := b.size
  exact ⟨Below.on h1 b, (b.block _ (by omega)).trans h2, (b.block _ (by omega)).trans h3, (b.block _ (by omega)).trans h4, by omega⟩
theorem bx_turn {w w1 w2 : World} {T1 T2 : TypeId} {arg zer cur cur' : Array Value} (h : BxSt w T1 T2 arg zer cur w1) (hg : w1.grownBy w2 (some (w.heap.size + 1 + 1))) (hr : w2.heap[w.heap.size + 1 + 1]? = some (.cells cur' T2 (0, 0))) : BxSt w T1 T2 arg zer cur' w2 := by
  obtain ⟨h1, h2, h3, h4, h5⟩ := h
  refine ⟨h1.grown hg (by omega) (by intro k hk; simp at hk; omega), (hg.block _ (by omega) (by simp; omega)).trans h2, (hg.block _ (by omega) (by simp)).trans h3, hr, by have := hg.size; omega⟩
theorem bx_set {w w1 : World} {T1 T2 : TypeId} {arg zer cur cur' : Array Value} (h : BxSt w T1 T2 arg zer cur w1) (j : Nat) (v : Value) (hc : cur.setIfInBounds j v = cur') : BxSt w T1 T2 arg zer cur' (w1.setCell ⟨w.heap.size + 1 + 1, j, none⟩ v) := by
  subst hc
  exact bx_turn h (grown1 _ _ _ _) (heap_setCell_same _ _ _ _ _ _ h.2.2.2.1)
theorem bx_set5 {w w1 : World} {T1 T2 : TypeId} {arg zer cur cur' : Array Value} (h : BxSt w T1 T2 arg zer cur w1) (j : Nat) (c0 c1 c2 c3 c4 : Value) (hc : ((((cur.setIfInBounds j c0).setIfInBounds (j + 1) c1).setIfInBounds (j + 2) c2).setIfInBounds (j + 3) c3).setIfInBounds (j + 4) c4 = cur') : BxSt w T1 T2 arg zer cur' (set5 w1 (w.heap.size + 1 + 1) j c0 c1 c2 c3 c4) := by
  subst hc
  exact bx_turn h (set5_grown _ _ _ _ _ _ _ _) (set5_heap _ _ _ _ _ h.2.2.2.1)

/-- Behind the boxes. -/
def Beh (w wx : World) (b : Nat) : Prop := w.heap.size + 3 ≤ b ∧ b < wx.heap.size
theorem beh_below {w wx w1 : World} (b : Below wx.heap.size wx w1) : Agree (Beh w wx) wx w1 := fun k hk => b.block k hk.2
theorem beh_turn {w wx w1 : World} (hg : wx.grownBy w1 (some (w.heap.size + 1 + 1))) : Agree (Beh w wx) wx w1 := fun k hk => hg.block k hk.2 (by have := hk.1; simp; omega)
theorem beh_mono {w wx w1 : World} (h : wx.heap.size ≤ w1.heap.size) : ∀ b, Beh w wx b → Beh w w1 b := fun b hb => ⟨hb.1, Nat.lt_of_lt_of_le hb.2 h⟩
end Go.Proofs.YtbmgkmnibjdpiaaGreatDoor
/-
  toItem: a record copied.
-/
namespace Go.Proofs.YtbmgkmnibjdpiaaGreatDoor
open Go.RowKit
set_option linter.unusedVariables false
set_option linter.unusedSimpArgs false

theorem keys_small {ks : List (List Int)} (h : szK ks ≤ 1048576) : ks.length ≤ 1048576 ∧ ∀ t ∈ ks, t.length ≤ 1048576 := by
  refine ⟨by unfold szK at h; omega, fun t ht => ?_⟩
  obtain ⟨i, hi, rfl⟩ := List.getElem_of_mem ht
  have h1 := pre_succ List.length ks i hi
  have h2 := pre_le List.length ks (i + 1)
  unfold szK at h
  omega

/-- What toItem leaves. -/
def RcEnd (d : Nat) (it : Rcd d) (w : World) (e : Ending) (w' : World) : Prop := ∃ cs, e = .returned (.agg cs.toArray) ∧ RSg (fun b => w.heap.size ≤ b ∧ b < w'.heap.size) w' d cs it ∧ Below w.heap.size w w'

end Go.Proofs.YtbmgkmnibjdpiaaGreatDoor
/-
  toEvent, toAct: a record copied, in blocks of its own.
-/
namespace Go.Proofs.YtbmgkmnibjdpiaaGreatDoor
open Go.RowKit
set_option linter.unusedVariables false
set_option linter.unusedSimpArgs false

/-- Nine cells that read as a record of the call's own, in the blocks B. -/
def ROwn (w : World) (d : Nat) (cs : List Value) (it : Rcd d) (B : List Nat) : Prop :=
  ∃ c1 c3 c4 c5 c6 c7 c8 B1 B2 B3, cs = [.int .i64 it.1, c1, .int .i64 it.2.2.1, c3, c4, c5, c6, c7, c8] ∧ TOwn w c1 it.2.1 B1 ∧ VOwn w d (c3, c4, c5, c6, c7) it.2.2.2.1 B2 ∧ KOwn w c8 it.2.2.2.2 B3 ∧ B = B1 ++ (B2 ++ B3) ∧
    ∃ s1 s2, (∀ b ∈ B1, b < s1) ∧ (∀ b ∈ B2, s1 ≤ b ∧ b < s2) ∧ (∀ b ∈ B3, s2 ≤ b) ∧ s1 ≤ s2

/-- Owned, in a window. -/
def TW (lo hi : Nat) (w : World) (u : Value) (xs : List Int) : Prop := ∃ B, TOwn w u xs B ∧ ∀ b ∈ B, lo ≤ b ∧ b < hi
def VW (lo hi : Nat) (w : World) (d : Nat) (c : Value × Value × Value × Value × Value) (v : Vl d) : Prop := ∃ B, VOwn w d c v B ∧ ∀ b ∈ B, lo ≤ b ∧ b < hi
def KW (lo hi : Nat) (w : World) (u : Value) (ks : List (List Int)) : Prop := ∃ B, KOwn w u ks B ∧ ∀ b ∈ B, lo ≤ b ∧ b < hi
variable {lo hi d : Nat} {w wx w1 w' : World}
theorem TW.agree {u : Value} {xs : List Int} (h : TW lo hi w u xs) (ha : Agree (fun b => lo ≤ b ∧ b < hi) w w') : TW lo hi w' u xs := by
  obtain ⟨B, h1, h2⟩ := h
  exact ⟨B, h1.agree fun b hb => ha b (h2 b hb), h2⟩
theorem VW.agree {c : Value × Value × Value × Value × Value} {v : Vl d} (h : VW lo hi w d c v) (ha : Agree (fun b => lo ≤ b ∧ b < hi) w w') : VW lo hi w' d c v := by
  obtain ⟨B, h1, h2⟩ := h
  exact ⟨B, VOwn.agree d h1 fun b hb => ha b (h2 b hb), h2⟩
theorem KW.agree {u : Value} {ks : List (List Int)} (h : KW lo hi w u ks) (ha : Agree (fun b => lo ≤ b ∧ b < hi) w w') : KW lo hi w' u ks := by
  obtain ⟨B, h1, h2⟩ := h
  exact ⟨B, h1.agree fun b hb => ha b (h2 b hb), h2⟩
theorem TW.mono {lo' : Nat} {u : Value} {xs : List Int} (h : TW lo hi w u xs) (hl : lo' ≤ lo) : TW lo' hi w u xs := by
  obtain ⟨B, h1, h2⟩ := h
  exact ⟨B, h1, fun b hb => by have := h2 b hb; omega⟩
theorem VW.mono {lo' : Nat} {c : Value × Value × Value × Value × Value} {v : Vl d} (h : VW lo hi w d c v) (hl : lo' ≤ lo) : VW lo' hi w d c v := by
  obtain ⟨B, h1, h2⟩ := h
  exact ⟨B, h1, fun b hb => by have := h2 b hb; omega⟩
theorem KW.mono {lo' : Nat} {u : Value} {ks : List (List Int)} (h : KW lo hi w u ks) (hl : lo' ≤ lo) : KW lo' hi w u ks := by
  obtain ⟨B, h1, h2⟩ := h
  exact ⟨B, h1, fun b hb => by have := h2 b hb; omega⟩
theorem win_turn (hg : wx.grownBy w1 (some (w.heap.size + 1 + 1))) (h1 : w.heap.size + 3 ≤ lo) (h2 : hi ≤ wx.heap.size) : Agree (fun b => lo ≤ b ∧ b < hi) wx w1 := fun k hk => hg.block k (by omega) (by simp; omega)
theorem win_below (b : Below wx.heap.size wx w1) (h2 : hi ≤ wx.heap.size) : Agree (fun b => lo ≤ b ∧ b < hi) wx w1 := fun k hk => b.block k (by omega)

theorem ROwn.agree {cs : List Value} {it : Rcd d} {B : List Nat} (h : ROwn w d cs it B) (ha : Agree (fun b => b ∈ B) w w') : ROwn w' d cs it B := by
  obtain ⟨c1, c3, c4, c5, c6, c7, c8, B1, B2, B3, e, h1, h2, h3, rfl, hs⟩ := h
  exact ⟨c1, c3, c4, c5, c6, c7, c8, B1, B2, B3, e, h1.agree fun b hb => ha b (by simp [hb]), VOwn.agree d h2 fun b hb => ha b (by simp [hb]), h3.agree fun b hb => ha b (by simp [hb]), rfl, hs⟩
theorem ROwn.lt {cs : List Value} {it : Rcd d} {B : List Nat} (h : ROwn w d cs it B) : ∀ b ∈ B, b < w.heap.size := by
  obtain ⟨c1, c3, c4, c5, c6, c7, c8, B1, B2, B3, e, h1, h2, h3, rfl, hs⟩ := h
  intro b hb
  simp only [List.mem_append] at hb
  rcases hb with hb | hb | hb
  · exact h1.lt b hb
  · exact VOwn.lt d h2 b hb
  · exact h3.lt b hb
theorem ROwn.on {cs : List Value} {it : Rcd d} {B : List Nat} (h : ROwn w d cs it B) (hb : Below w.heap.size w w') : ROwn w' d cs it B := h.agree fun b hb' => hb.block b (h.lt b hb')
theorem ROwn.read {cs : List Value} {it : Rcd d} {B : List Nat} (h : ROwn w d cs it B) : RSg (fun b => b < w.heap.size) w d cs it := by
  have hlt := h.lt
  obtain ⟨c1, c3, c4, c5, c6, c7, c8, B1, B2, B3, e, h1, h2, h3, rfl, hs⟩ := h
  exact ⟨c1, c3, c4, c5, c6, c7, c8, e, h1.seg.mono fun b hb => hlt b (by simp [hb]), VSeg.mono (fun b hb => hlt b (by simp [hb])) d (VOwn.seg d h2), h3.seg.mono fun b hb => hlt b (by simp [hb])⟩

/-- What toEvent, toAct leave. -/
def RcEndO (d : Nat) (it : Rcd d) (w : World) (e : Ending) (w' : World) : Prop := ∃ cs, e = .returned (.agg cs.toArray) ∧ ∃ B, ROwn w' d cs it B ∧ (∀ b ∈ B, w.heap.size ≤ b ∧ b < w'.heap.size) ∧ Below w.heap.size w w'

end Go.Proofs.YtbmgkmnibjdpiaaGreatDoor
/-
  toEntry, toEntry: an entry copied, in blocks of its own.
-/
namespace Go.Proofs.YtbmgkmnibjdpiaaGreatDoor
open Go.RowKit
set_option linter.unusedVariables false
set_option linter.unusedSimpArgs false

/-- Nine cells that read as an entry of the call's own, in the blocks B. -/
def NtOwn (w : World) (d : Nat) (cs : List Value) (it : Ntr d) (B : List Nat) : Prop :=
  ∃ c1 c3 c4 c5 c6 c7 c8 B1 B2 B3, cs = [c1, c3, c4, c5, c6, c7, c8, .bool it.2.2.2.1, .int .i64 it.2.2.2.2] ∧ TOwn w c1 it.1 B1 ∧ VOwn w d (c3, c4, c5, c6, c7) it.2.1 B2 ∧ KOwn w c8 it.2.2.1 B3 ∧ B = B1 ++ (B2 ++ B3) ∧
    ∃ s1 s2, (∀ b ∈ B1, b < s1) ∧ (∀ b ∈ B2, s1 ≤ b ∧ b < s2) ∧ (∀ b ∈ B3, s2 ≤ b) ∧ s1 ≤ s2

variable {lo hi d : Nat} {w wx w1 w' : World}
theorem NtOwn.agree {cs : List Value} {it : Ntr d} {B : List Nat} (h : NtOwn w d cs it B) (ha : Agree (fun b => b ∈ B) w w') : NtOwn w' d cs it B := by
  obtain ⟨c1, c3, c4, c5, c6, c7, c8, B1, B2, B3, e, h1, h2, h3, rfl, hs⟩ := h
  exact ⟨c1, c3, c4, c5, c6, c7, c8, B1, B2, B3, e, h1.agree fun b hb => ha b (by simp [hb]), VOwn.agree d h2 fun b hb => ha b (by simp [hb]), h3.agree fun b hb => ha b (by simp [hb]), rfl, hs⟩
theorem NtOwn.lt {cs : List Value} {it : Ntr d} {B : List Nat} (h : NtOwn w d cs it B) : ∀ b ∈ B, b < w.heap.size := by
  obtain ⟨c1, c3, c4, c5, c6, c7, c8, B1, B2, B3, e, h1, h2, h3, rfl, hs⟩ := h
  intro b hb
  simp only [List.mem_append] at hb
  rcases hb with hb | hb | hb
  · exact h1.lt b hb
  · exact VOwn.lt d h2 b hb
  · exact h3.lt b hb
theorem NtOwn.on {cs : List Value} {it : Ntr d} {B : List Nat} (h : NtOwn w d cs it B) (hb : Below w.heap.size w w') : NtOwn w' d cs it B := h.agree fun b hb' => hb.block b (h.lt b hb')
theorem NtOwn.read {cs : List Value} {it : Ntr d} {B : List Nat} (h : NtOwn w d cs it B) : NtSg (fun b => b < w.heap.size) w d cs it := by
  have hlt := h.lt
  obtain ⟨c1, c3, c4, c5, c6, c7, c8, B1, B2, B3, e, h1, h2, h3, rfl, hs⟩ := h
  exact ⟨c1, c3, c4, c5, c6, c7, c8, e, h1.seg.mono fun b hb => hlt b (by simp [hb]), VSeg.mono (fun b hb => hlt b (by simp [hb])) d (VOwn.seg d h2), h3.seg.mono fun b hb => hlt b (by simp [hb])⟩

/-- What toEntry, toEntry leave. -/
def NtEndO (d : Nat) (it : Ntr d) (w : World) (e : Ending) (w' : World) : Prop := ∃ cs, e = .returned (.agg cs.toArray) ∧ ∃ B, NtOwn w' d cs it B ∧ (∀ b ∈ B, w.heap.size ≤ b ∧ b < w'.heap.size) ∧ Below w.heap.size w w'

set_option maxHeartbeats 3200000 in
set_option maxRecDepth 100000 in
theorem toEntryO_any (d N : Nat) (cs : List Value) (it : Ntr d) (w : World) (h : NtSg (fun b => b < N) w d cs it) (hN : N ≤ w.heap.size) (hz : NtSz d it) :
    Calls Tryz.prog 43 #[.agg cs.toArray] w (NtEndO d it w) := by
  obtain ⟨na, np, bk, bn, a2, l2, p2, a3, l3, p3, a4, l4, p4, xa, xp, rfl, ht, hv, hk⟩ := h.form
  obtain ⟨nm, by', ks, tn, tu⟩ := it
  obtain ⟨z0, z1, z2⟩ := hz
  simp only at ht hv hk z0 z1 z2 ⊢
  have hA : ∀ wx, Below w.heap.size w wx → Agree (fun b => b < N) w wx := fun wx hb => agree_below (hb.mono hN)
  have HT : Hid (∀ wx, Below w.heap.size w wx → w.heap.size + 3 ≤ wx.heap.size → Calls Tryz.prog 11 #[.slice na nm.length np] wx fun e w' => ∃ g c, e = .returned (.slice (some ⟨g, 0, none⟩) nm.length c) ∧ TW wx.heap.size w'.heap.size w' (.slice (some ⟨g, 0, none⟩) nm.length c) nm ∧ Below wx.heap.size wx w') := fun wx hb hs => by
    obtain ⟨_, _, e1, s1, _⟩ := ht.agree (hA wx hb)
    simp at e1
    obtain ⟨rfl, _⟩ := e1
    refine (toByteS_any _ _ nm wx s1 (by omega)).mono ?_
    rintro e w' ⟨rfl, hB, b⟩
    refine ⟨_, _, rfl, ⟨_, tOwn_new hB, fun b' hb' => ?_⟩, b⟩
    have h1 := (tOwn_new hB).lt b' hb'
    simp at hb'
    exact ⟨by omega, h1⟩
  have HV : Hid (∀ wx, Below w.heap.size w wx → w.heap.size + 3 ≤ wx.heap.size → Calls Tryz.prog 58 #[.agg #[.int .i64 bk, .int .i64 bn, .slice a2 l2 p2, .slice a3 l3 p3, .slice a4 l4 p4]] wx fun e w' => ∃ c0 c1 c2 c3 c4, e = .returned (.agg #[c0, c1, c2, c3, c4]) ∧ VW wx.heap.size w'.heap.size w' d (c0, c1, c2, c3, c4) by' ∧ Below wx.heap.size wx w') := fun wx hb hs => by
    refine (toValue_any d N (.int .i64 bk, .int .i64 bn, .slice a2 l2 p2, .slice a3 l3 p3, .slice a4 l4 p4) by' wx (VSeg.agree (hA wx hb) d hv) (by have := hb.size; omega) z1).mono ?_
    rintro e w' ⟨c0, c1, c2, c3, c4, rfl, B, hO, hB, b⟩
    exact ⟨_, _, _, _, _, rfl, ⟨B, hO, hB⟩, b⟩
  have HK : Hid (∀ wx, Below w.heap.size w wx → w.heap.size + 3 ≤ wx.heap.size → Calls Tryz.prog 59 #[.slice xa ks.length xp] wx fun e w' => ∃ a c, e = .returned (.slice a ks.length c) ∧ KW wx.heap.size w'.heap.size w' (.slice a ks.length c) ks ∧ Below wx.heap.size wx w') := fun wx hb hs => by
    obtain ⟨q1, q2⟩ := keys_small z2
    refine (toByteSS_any N _ ks wx (hk.agree (hA wx hb)) (by have := hb.size; omega) q1 q2).mono ?_
    rintro e w' ⟨u, rfl, B, hO, hB, b⟩
    have hO' := hO
    obtain ⟨a, c, rfl, _⟩ := hO.seg
    exact ⟨a, c, rfl, ⟨B, hO', hB⟩, b⟩

  clear ht hv hk h hA
  have hst0 := hide' (bx_start w 72 39 #[.slice na nm.length np, .int .i64 bk, .int .i64 bn, .slice a2 l2 p2, .slice a3 l3 p3, .slice a4 l4 p4, .slice xa ks.length xp, .bool tn, .int .i64 tu] #[.slice none 0 0, .int .i64 0, .int .i64 0, .slice none 0 0, .slice none 0 0, .slice none 0 0, .slice none 0 0, .bool false, .int .i64 0] #[.slice none 0 0, .int .i64 0, .int .i64 0, .slice none 0 0, .slice none 0 0, .slice none 0 0, .slice none 0 0, .bool false, .int .i64 0])
  generalize hn0 : nm.length = s0 at *
  generalize hn1 : ks.length = kl at *
  have Hn0 := hide' hn0
  have Hn1 := hide' hn1
  clear hn0 hn1 z0 z1 z2
  go_enter Tryz.func43, Tryz.ntmps43
  go_wp2_with fail
  refine (HT.out _ hst0.out.1 hst0.out.2.2.2.2).mono ?_
  rintro e w1 ⟨g1, c1, rfl, hT1, b1⟩
  have hq := bx_below hst0.out b1
  have hs1' := hide' (bx_set hq 0 (.slice (some ⟨g1, 0, none⟩) s0 c1) rfl)
  have hg1 := grown1 w1 (w.heap.size + 1 + 1) 0 (.slice (some ⟨g1, 0, none⟩) s0 c1)
  have hz1 := hst0.out.2.2.2.2
  have hy1 := b1.size
  have HT1 := hide' ((hT1.mono hz1).agree (win_turn hg1 (Nat.le_refl _) (Nat.le_refl _)))
  have hx1 := hg1.size
  have hb1 : w.heap.size + 3 ≤ w1.heap.size := Nat.le_trans hz1 hy1
  have u1 := cell_of_row _ _ 1 _ _ _ hq.2.1
  have u2 := cell_of_row _ _ 2 _ _ _ hq.2.1
  have u3 := cell_of_row _ _ 3 _ _ _ hq.2.1
  have u4 := cell_of_row _ _ 4 _ _ _ hq.2.1
  have u5 := cell_of_row _ _ 5 _ _ _ hq.2.1
  have t1 := cell_of_row _ _ 0 _ _ _ hq.2.2.2.1
  have f1 := frozen_of_row _ _ 0 _ _ hq.2.2.2.1
  simp at u1 u2 u3 u4 u5 t1 hs1'
  clear hT1 b1 hq hg1 hst0 HT
  go_wp2_with fail
  refine (HV.out _ hs1'.out.1 hs1'.out.2.2.2.2).mono ?_
  rintro e w2 ⟨v0, v1, v2, v3, v4, rfl, hV2, b2⟩
  obtain ⟨BV, hBV, hBV'⟩ := hV2
  obtain ⟨vk, vn, e2, m2, q2, e3, m3, q3, e4, m4, q4, rfl, rfl, rfl, rfl, rfl⟩ := VOwn.form d hBV
  have hV2 : VW _ _ _ _ _ _ := ⟨BV, hBV, hBV'⟩
  have hq := bx_below hs1'.out b2
  have hs2 := hide' (bx_set5 hq 1 (.int .i64 vk) (.int .i64 vn) (.slice e2 m2 q2) (.slice e3 m3 q3) (.slice e4 m4 q4) rfl)
  have hg2 := set5_grown w2 (w.heap.size + 1 + 1) 1 (.int .i64 vk) (.int .i64 vn) (.slice e2 m2 q2) (.slice e3 m3 q3) (.slice e4 m4 q4)
  have hb2 : w1.heap.size ≤ w2.heap.size := Nat.le_trans hx1 b2.size
  have hx2 := hg2.size
  have HT2 := hide' ((HT1.out.agree (win_below b2 hx1)).agree (win_turn hg2 (Nat.le_refl _) hb2))
  have HV2 := hide' ((hV2.mono hx1).agree (win_turn hg2 hb1 (Nat.le_refl _)))
  have x8 := cell_of_row _ _ 6 _ _ _ hq.2.1
  have r3 := cell_of_row _ _ 1 _ _ _ hq.2.2.2.1
  have r4 := cell_of_row _ _ 2 _ _ _ hq.2.2.2.1
  have r5 := cell_of_row _ _ 3 _ _ _ hq.2.2.2.1
  have r6 := cell_of_row _ _ 4 _ _ _ hq.2.2.2.1
  have r7 := cell_of_row _ _ 5 _ _ _ hq.2.2.2.1
  have k3 := frozen_of_row _ _ 1 _ _ hq.2.2.2.1
  have k4 := frozen_of_row _ _ 2 _ _ hq.2.2.2.1
  have k5 := frozen_of_row _ _ 3 _ _ hq.2.2.2.1
  have k6 := frozen_of_row _ _ 4 _ _ hq.2.2.2.1
  have k7 := frozen_of_row _ _ 5 _ _ hq.2.2.2.1
  simp at x8 r3 r4 r5 r6 r7 hs2
  clear hV2 b2 hq hg2 hs1' HV HT1 u1 u2 u3 u4 u5 t1 f1
  go_wp2_with fail
  refine (HK.out _ hs2.out.1 hs2.out.2.2.2.2).mono ?_
  rintro e w3 ⟨ka, kc, rfl, hK3, b3⟩
  have hq := bx_below hs2.out b3
  have hs3 := hide' (bx_set (bx_set (bx_set hq 6 (.slice ka kl kc) rfl) 7 (.bool tn) rfl) 8 (.int .i64 tu) rfl)
  have hg3 := grownBy_trans (grownBy_trans (grown1 w3 (w.heap.size + 1 + 1) 6 (.slice ka kl kc)) (grown1 _ (w.heap.size + 1 + 1) 7 (.bool tn))) (grown1 _ (w.heap.size + 1 + 1) 8 (.int .i64 tu))
  have hb3 : w2.heap.size ≤ w3.heap.size := Nat.le_trans hx2 b3.size
  have hx3 := hg3.size
  have HT3 := hide' ((HT2.out.agree (win_below b3 (Nat.le_trans hb2 hx2))).agree (win_turn hg3 (Nat.le_refl _) (Nat.le_trans hb2 hb3)))
  have HV3 := hide' ((HV2.out.agree (win_below b3 hx2)).agree (win_turn hg3 hb1 hb3))
  have HK3 := hide' ((hK3.mono hx2).agree (win_turn hg3 (Nat.le_trans hb1 hb2) (Nat.le_refl _)))
  have r8 := cell_of_row _ _ 6 _ _ _ hq.2.2.2.1
  have k8 := frozen_of_row _ _ 6 _ _ hq.2.2.2.1
  have r9 := cell_of_row _ _ 7 _ _ _ hq.2.2.2.1
  have k9 := frozen_of_row _ _ 7 _ _ hq.2.2.2.1
  have r10 := cell_of_row _ _ 8 _ _ _ hq.2.2.2.1
  have k10 := frozen_of_row _ _ 8 _ _ hq.2.2.2.1
  have x9 := cell_of_row _ _ 7 _ _ _ hq.2.1
  have x10 := cell_of_row _ _ 8 _ _ _ hq.2.1
  simp at r8 r9 r10 x9 x10 hs3
  clear hK3 b3 hq hg3 hs2 HK HT2 HV2 x8 r3 r4 r5 r6 r7 k3 k4 k5 k6 k7
  go_upto_region 7 with fail
  generalize ((w3.setCell ⟨w.heap.size + 1 + 1, 6, none⟩ (.slice ka kl kc)).setCell ⟨w.heap.size + 1 + 1, 7, none⟩ (.bool tn)).setCell ⟨w.heap.size + 1 + 1, 8, none⟩ (.int .i64 tu) = wA at *
  clear r8 k8 r9 k9 r10 k10 x9 x10
  have hr := range_of_row (cs := [.slice (some ⟨g1, 0, none⟩) s0 c1, .int .i64 vk, .int .i64 vn, .slice e2 m2 q2, .slice e3 m3 q3, .slice e4 m4 q4, .slice ka kl kc, .bool tn, .int .i64 tu]) hs3.out.2.2.2.1
  have hth : wA.there (w.heap.size + 1) 0 9 := there_of_row hs3.out.2.2.1
  have hone : ∀ v ∈ [Value.slice (some ⟨g1, 0, none⟩) s0 c1, .int .i64 vk, .int .i64 vn, .slice e2 m2 q2, .slice e3 m3 q3, .slice e4 m4 q4, .slice ka kl kc, .bool tn, .int .i64 tu], v.oneCell' = true := by
    intro v hv
    simp only [List.mem_cons, List.not_mem_nil, or_false] at hv
    rcases hv with rfl | rfl | rfl | rfl | rfl | rfl | rfl | rfl | rfl <;> rfl
  have hld := run_loadVar_mid (P := Tryz.prog) _ _ _ 39 _ _ (World.rangeAt_setCells_same wA (w.heap.size + 1) 0 [.slice (some ⟨g1, 0, none⟩) s0 c1, .int .i64 vk, .int .i64 vn, .slice e2 m2 q2, .slice e3 m3 q3, .slice e4 m4 q4, .slice ka kl kc, .bool tn, .int .i64 tu] hth) Tryz.underlying39 rfl (by kernel_rfl)
  have hg := grown_setCells (w.heap.size + 1) [.slice (some ⟨g1, 0, none⟩) s0 c1, .int .i64 vk, .int .i64 vn, .slice e2 m2 q2, .slice e3 m3 q3, .slice e4 m4 q4, .slice ka kl kc, .bool tn, .int .i64 tu] 0 wA
  go_wp2_with (first | (refine wpList_load_mid rfl 39 (.tmp 3) (by rfl) (w.heap.size + 1 + 1) 0 (by rfl) _ _ hr Tryz.underlying39 rfl (by kernel_rfl) ?_) | (refine wpList_store_mid rfl 39 (.tmp 2) (.tmp 22) (by rfl) (w.heap.size + 1) 0 #[.slice (some ⟨g1, 0, none⟩) s0 c1, .int .i64 vk, .int .i64 vn, .slice e2 m2 q2, .slice e3 m3 q3, .slice e4 m4 q4, .slice ka kl kc, .bool tn, .int .i64 tu] (by rfl) (by rfl) hth (by kernel_rfl) (all_oneCell_toArray hone) ?_))
  refine bodyPost_ret (v := .agg #[.slice (some ⟨g1, 0, none⟩) s0 c1, .int .i64 vk, .int .i64 vn, .slice e2 m2 q2, .slice e3 m3 q3, .slice e4 m4 q4, .slice ka kl kc, .bool tn, .int .i64 tu]) (results_cell 2 39 Tryz.results43 (by rfl) hld) rfl ?_
  have hAg : ∀ lo hi, w.heap.size + 3 ≤ lo → hi ≤ wA.heap.size → Agree (fun b => lo ≤ b ∧ b < hi) wA (wA.setCells (w.heap.size + 1) 0 [.slice (some ⟨g1, 0, none⟩) s0 c1, .int .i64 vk, .int .i64 vn, .slice e2 m2 q2, .slice e3 m3 q3, .slice e4 m4 q4, .slice ka kl kc, .bool tn, .int .i64 tu]) := fun lo hi h1 h2 b hb => hg.block b (by omega) (by simp; omega)
  have hsz := hg.size
  obtain ⟨B1, o1, d1⟩ := HT3.out.agree (hAg _ _ (Nat.le_refl _) (by omega))
  obtain ⟨B2, o2, d2⟩ := HV3.out.agree (hAg _ _ (by omega) (by omega))
  obtain ⟨B3, o3, d3⟩ := HK3.out.agree (hAg _ _ (by omega) (by omega))
  refine ⟨_, rfl, B1 ++ (B2 ++ B3), ⟨_, _, _, _, _, _, _, B1, B2, B3, rfl, o1, o2, o3, rfl, w1.heap.size, w2.heap.size, fun b hb => (d1 b hb).2, fun b hb => d2 b hb, fun b hb => (d3 b hb).1, by omega⟩, fun b hb => ?_, hs3.out.1.grown hg (by have := hs3.out.2.2.2.2; omega) (by intro j hj; simp at hj; omega)⟩
  simp only [List.mem_append] at hb
  rcases hb with hb | hb | hb
  · have := d1 b hb
    omega
  · have := d2 b hb
    omega
  · have := d3 b hb
    omega

end Go.Proofs.YtbmgkmnibjdpiaaGreatDoor
/-
  toActS: a list of records copied.
-/
namespace Go.Proofs.YtbmgkmnibjdpiaaGreatDoor
open Go.RowKit
set_option linter.unusedVariables false
set_option linter.unusedSimpArgs false

/-- The first k records are laid. -/
def RPart (wr : World) (g n d : Nat) (l : List (Rcd d)) (k : Nat) : Prop :=
  wr.there g 0 (n * 9) ∧ g < wr.heap.size ∧ ∀ i (h : i < l.length), i < k → ∃ cs, wr.rangeAt g (i * 9) cs ∧ RSg (fun b => g < b ∧ b < wr.heap.size) wr d cs l[i]

theorem there_cut {w : World} {g n : Nat} (h : w.there g 0 n) (o m : Nat) (hm : o + m ≤ n) : w.there g o m := fun j hj => by
  have := h (o + j) (by omega)
  rw [Nat.zero_add] at this
  exact this
theorem there_below {w w' : World} {g o n : Nat} (h : w.there g o n) (hg : g < w.heap.size) (hb : Below w.heap.size w w') : w'.there g o n := fun j hj => by
  obtain ⟨h1, h2⟩ := h j hj
  exact ⟨by rw [World.cell?_of_block (w := w) (w' := w') (hb.block g hg)]; exact h1, by rw [World.frozen?_of_block (w := w) (w' := w') (hb.block g hg)]; exact h2⟩
theorem range_keep {w w' : World} {g o : Nat} {cs : List Value} (h : w.rangeAt g o cs) (hg : g < w.heap.size) (hb : Below w.heap.size w w') : w'.rangeAt g o cs := fun j v hv => (World.cell?_of_block (hb.block g hg)).trans (h j v hv)

theorem rPart_next {wr w2 : World} {g n d : Nat} {l : List (Rcd d)} {k : Nat} {cs : List Value} (h : RPart wr g n d l k) (hk : k < l.length) (hn : l.length ≤ n) (b2 : Below wr.heap.size wr w2) (hs : RSg (fun b => wr.heap.size ≤ b ∧ b < w2.heap.size) w2 d cs l[k]) :
    w2.there g (k * 9) 9 ∧ RPart (w2.setCells g (k * 9) cs) g n d l (k + 1) := by
  obtain ⟨h1, h2, h3⟩ := h
  have hlen := hs.len
  have hth := there_below h1 h2 b2
  have hg := grown_setCells g cs (k * 9) w2
  have hz := b2.size
  have hz2 := hg.size
  have htk := there_cut hth (k * 9) 9 (by omega)
  refine ⟨htk, World.there_setCells hth _ _ _, by omega, fun i hi hik => ?_⟩
  by_cases e : i = k
  · subst e
    refine ⟨cs, World.rangeAt_setCells_same _ _ _ _ (by rw [hlen]; exact htk), ?_⟩
    have ha : Agree (fun b => wr.heap.size ≤ b ∧ b < w2.heap.size) w2 (w2.setCells g (i * 9) cs) := fun b hb => hg.block b hb.2 (by have := hb.1; simp; omega)
    exact (hs.agree ha).mono fun b hb => ⟨by omega, by omega⟩
  · obtain ⟨cs', hr, hv⟩ := h3 i hi (by omega)
    have hl' := hv.len
    refine ⟨cs', World.rangeAt_setCells_apart (range_keep hr h2 b2) _ _ _ (by omega), ?_⟩
    have ha : Agree (fun b => g < b ∧ b < wr.heap.size) wr (w2.setCells g (k * 9) cs) := fun b hb => (hg.block b (by omega) (by have := hb.1; simp; omega)).trans (b2.block b hb.2)
    exact (hv.agree ha).mono fun b hb => ⟨hb.1, by omega⟩

/-- What toActS leaves. -/
def RcSEnd (d : Nat) (l : List (Rcd d)) (w : World) (e : Ending) (w' : World) : Prop := ∃ a c, e = .returned (.slice a l.length c) ∧ RLSg (fun b => w.heap.size ≤ b ∧ b < w'.heap.size) w' d (.slice a l.length c) l ∧ Below w.heap.size w w'

end Go.Proofs.YtbmgkmnibjdpiaaGreatDoor
