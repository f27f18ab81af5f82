/-
  Texts that a law leans on, one behind the other; no statement is proved here.
-/
import Derived.Test.YtngjhimieacjhaaGreatDoorPk22
import Derived.Test.YtngjhimieacjhaaGreatDoorPk1
import Derived.Test.YtngjhimieacjhaaGreatDoorPk15
import Derived.Test.YtngjhimieacjhaaGreatDoorPk8
/-
  What stands while the program takes a state in: the world's box, its map, the row of addresses.
-/
namespace Go.Proofs.YtngjhimieacjhaaGreatDoor
open Go.RowKit
set_option linter.unusedVariables false
set_option linter.unusedSimpArgs false

/-- An entry that was taken in: its map reads as the value, its row holds the addresses, all of it in blocks of R. -/
def HeldIs (lo : Nat) (R : Nat → Prop) (w : World) (d : Nat) (it : Ntr d) (p : Value) : Prop :=
  ∃ m a n c, p = .agg #[.map m, .slice a n c, .bool it.2.2.2.1, .int .i64 it.2.2.2.2] ∧ PSeg R w d (.iface 59 (.agg #[.map m])) it.2.1 ∧ SR w lo (.slice a n c) it.2.2.1 ∧ ∀ q, (Value.slice a n c).ownBlock = some q → R q

theorem SR.carry {w w' : World} {lo lo' : Nat} {v : Value} {ks : List (List Int)} (h : SR w lo v ks) (hl : lo' ≤ lo) (ha : ∀ q, v.ownBlock = some q → w'.heap[q]? = w.heap[q]?) : SR w' lo' v ks := by
  refine ⟨h.1, ?_⟩
  rcases h.2 with h | ⟨g, cap, cur, rfl, h1, h2, h3⟩
  · exact .inl h
  · exact .inr ⟨g, cap, cur, rfl, by omega, (ha g rfl).trans h2, h3⟩
theorem HeldIs.carry {lo lo' : Nat} {R R' : Nat → Prop} {w w' : World} {d : Nat} {it : Ntr d} {p : Value} (h : HeldIs lo R w d it p) (hl : lo' ≤ lo) (hR : ∀ q, R q → R' q) (ha : ∀ q, R q → w'.heap[q]? = w.heap[q]?) : HeldIs lo' R' w' d it p := by
  obtain ⟨m, a, n, c, rfl, h1, h2, h3⟩ := h
  exact ⟨m, a, n, c, rfl, PSeg.carry hR ha d h1, h2.carry hl (fun q hq => ha q (h3 q hq)), fun q hq => hR q (h3 q hq)⟩

/-- What stands while entries are taken in: kr addresses in the row y, km entries in the map. -/
structure WLp (d N : Nat) (w : World) (l : List (Ntr d)) (s0 : Int) (s1 : Bool) (nm : List Int) (s3 : Int) (ob : Obj) (kr km : Nat) (y : Value) (ps : List Value) (wr : World) : Prop where
  box : wr.heap[w.heap.size]? = some ob
  wbx : WBx wr (w.heap.size + 2) (w.heap.size + 1) s0 s1 nm s3
  own : wr.ownsMap Tryz.prog 9 tokR (w.heap.size + 1) km (mapD (adrL l) ps km)
  len : ps.length = km
  row : ∃ vs, wr.ownsRow (w.heap.size + 3) 22 1 y kr vs ∧ vs.length = kr ∧ ∀ i (h : i < l.length), i < kr → TSeg (fun b => b < N) w (vs.getD i .nilIface) (l[i]).1
  held : ∀ i (h : i < l.length), i < km → HeldIs (w.heap.size + 3) (fun q => w.heap.size + 2 < q ∧ q < wr.heap.size ∧ y.ownBlock ≠ some q) wr d l[i] (ps.getD i .nilIface)
  bel : Below w.heap.size w wr
  siz : w.heap.size + 3 ≤ wr.heap.size

section
variable {d N : Nat} {w wr w4 w5 w6 : World} {l : List (Ntr d)} {s0 : Int} {s1 : Bool} {nm : List Int} {s3 : Int} {ob : Obj} {k : Nat} {y : Value} {ps : List Value} {p : Value}

theorem getD_snoc (ps : List Value) (p : Value) {i : Nat} (h : i < ps.length) : (ps ++ [p]).getD i .nilIface = ps.getD i .nilIface := by
  rw [List.getD_eq_getElem?_getD, List.getD_eq_getElem?_getD, List.getElem?_append_left h]
theorem getD_last (ps : List Value) (p : Value) : (ps ++ [p]).getD ps.length .nilIface = p := by
  rw [List.getD_eq_getElem?_getD]
  simp

/-- One more entry in the map. -/
theorem wlp_map (h : WLp d N w l s0 s1 nm s3 ob k k y ps wr) (hk : k < l.length) (b4 : Below wr.heap.size wr w4) (hH : HeldIs wr.heap.size (fun q => wr.heap.size ≤ q ∧ q < w4.heap.size) w4 d l[k] p) (ho : w5.ownsMap Tryz.prog 9 tokR (w.heap.size + 1) (k + 1) ((mapD (adrL l) ps k).put (.string (u8s (l[k]).1)) (.held p))) (hg : w4.grownBy w5 (some (w.heap.size + 1))) :
    WLp d N w l s0 s1 nm s3 ob k (k + 1) y (ps ++ [p]) w5 := by
  have hz := h.siz
  have hz4 := b4.size
  have hz5 := hg.size
  have hbk : ∀ q, q < wr.heap.size → q ≠ w.heap.size + 1 → w5.heap[q]? = wr.heap[q]? := fun q h1 h2 => (hg.block q (by omega) (by simp; omega)).trans (b4.block q h1)
  obtain ⟨vs, hr, hvl, hvt⟩ := h.row
  have hlt := fun g hg => World.ownsRow.lt hr g hg
  have hgb : wr.grownBy w4 none := below_grows b4 none
  refine ⟨(hbk _ (by omega) (by omega)).trans h.box, (hbk _ (by omega) (by omega)).trans h.wbx, ?_, by simp [h.len], ⟨vs, World.ownsRow.kept (World.ownsRow.kept hr hgb ?_) hg ?_, hvl, hvt⟩, fun i hi hik => ?_, ?_, by omega⟩
  · have e1 : mapD (adrL l) (ps ++ [p]) (k + 1) = (mapD (adrL l) ps k).put (.string (u8s (l[k]).1)) (.held p) := by
      show (mapD (adrL l) (ps ++ [p]) k).put _ _ = _
      rw [mapD_same (ps' := ps) (fun i hi => getD_snoc ps p (by rw [h.len]; exact hi)), adrL_at l hk]
      have e2 : (ps ++ [p]).getD k .nilIface = p := by
        have := getD_last ps p
        rw [h.len] at this
        exact this
      rw [e2]
    rw [e1]
    exact ho
  · cases hq : y.ownBlock with
    | none => exact .inl rfl
    | some q => exact .inr (by simp)
  · cases hq : y.ownBlock with
    | none => exact .inl rfl
    | some q =>
      refine .inr fun e => ?_
      have := (hlt q hq).1
      simp at e
      omega
  · by_cases e : i = k
    · subst e
      have e2 : (ps ++ [p]).getD i .nilIface = p := by
        have := getD_last ps p
        rw [h.len] at this
        exact this
      rw [e2]
      refine hH.carry (by omega) (fun q hq => ⟨by omega, by omega, fun e => ?_⟩) (fun q hq => hg.block q hq.2 (by simp; omega))
      have := (hlt q e).2
      omega
    · rw [getD_snoc ps p (by rw [h.len]; omega)]
      exact (h.held i hi (by omega)).carry (Nat.le_refl _) (fun q hq => ⟨hq.1, by omega, hq.2.2⟩) (fun q hq => hbk q hq.2.1 (by omega))
  · exact (Below.on h.bel b4).grown hg (by omega) (by intro j hj; simp at hj; omega)

/-- One more address in the row. -/
theorem wlp_row (h : WLp d N w l s0 s1 nm s3 ob k (k + 1) y ps wr) (hk : k < l.length) {y' v : Value} (hv : TSeg (fun b => b < N) w v (l[k]).1) {vs : List Value} (hvl : vs.length = k) (hvt : ∀ i (h : i < l.length), i < k → TSeg (fun b => b < N) w (vs.getD i .nilIface) (l[i]).1) (hr : wr.ownsRow (w.heap.size + 3) 22 1 y k vs) (hr' : w6.ownsRow (w.heap.size + 3) 22 1 y' (k + 1) (vs ++ [v])) (hg : wr.grownBy w6 y.ownBlock) (hloc : ∀ g, y'.ownBlock = some g → y.ownBlock = some g ∨ wr.heap.size ≤ g) :
    WLp d N w l s0 s1 nm s3 ob (k + 1) (k + 1) y' ps w6 := by
  have hz := h.siz
  have hz6 := hg.size
  have hlt := fun g hg => World.ownsRow.lt hr g hg
  have hbk : ∀ q, q < wr.heap.size → y.ownBlock ≠ some q → w6.heap[q]? = wr.heap[q]? := fun q h1 h2 => hg.block q h1 (fun e => h2 e.symm)
  have hlow : ∀ q, q < w.heap.size + 3 → y.ownBlock ≠ some q := fun q hq e => by have := (hlt q e).1; omega
  refine ⟨(hbk _ (by omega) (hlow _ (by omega))).trans h.box, (hbk _ (by omega) (hlow _ (by omega))).trans h.wbx, h.own.kept hg (fun e => hlow _ (by omega) e.symm), h.len, ⟨_, hr', by simp [hvl], fun i hi hik => ?_⟩, fun i hi hik => ?_, ?_, by omega⟩
  · by_cases e : i = k
    · subst e
      have e2 : (vs ++ [v]).getD i .nilIface = v := by
        have := getD_last vs v
        rw [hvl] at this
        exact this
      rw [e2]
      exact hv
    · rw [getD_snoc vs v (by omega)]
      exact hvt i hi (by omega)
  · refine (h.held i hi hik).carry (Nat.le_refl _) (fun q hq => ⟨hq.1, by omega, fun e => ?_⟩) (fun q hq => hbk q hq.2.1 hq.2.2)
    rcases hloc q e with h1 | h1
    · exact hq.2.2 h1
    · omega
  · exact h.bel.grown hg (by omega) (by intro j hj; have := (hlt j hj).1; omega)

/-- The row of addresses reads as the addresses. -/
theorem wlp_keys (h : WLp d N w l s0 s1 nm s3 ob l.length l.length y ps wr) (hN : N ≤ w.heap.size) : KSeg (fun b => b < wr.heap.size) wr y (adrL l) := by
  obtain ⟨vs, hr, hvl, hvt⟩ := h.row
  have hlt := fun g hg => World.ownsRow.lt hr g hg
  have hsz := h.bel.size
  have ha : Agree (fun b => b < N) w wr := agree_below (h.bel.mono hN)
  rcases hr.2 with ⟨rfl, h0⟩ | ⟨g, cap, cur, rfl, h1, h2, h3, h4, h5, h6⟩
  · have : l = [] := List.length_eq_zero_iff.1 h0
    subst this
    exact ⟨none, 0, rfl, Nat.le_refl _, by unfold maxLen; omega, fun _ => rfl, .inl rfl⟩
  · refine ⟨_, cap, by rw [adrL_len], by rw [adrL_len]; exact h3, h4, by simp, .inr ⟨g, 0, rfl, (hlt g rfl).2, fun i hi => ?_⟩⟩
    have hi' : i < l.length := by rw [adrL_len] at hi; exact hi
    refine ⟨vs.getD i .nilIface, ?_, ?_⟩
    · rw [Nat.zero_add, cell_of_row wr g i _ _ _ h2]
      have e1 : cur.toList[i]? = vs[i]? := by
        rw [← h6, List.getElem?_take_of_lt (by omega)]
      rw [← Array.getElem?_toList, e1, List.getD_eq_getElem?_getD, List.getElem?_eq_getElem (by omega)]
      rfl
    · rw [adrL_at l hi']
      exact ((hvt i hi' hi').agree ha).mono fun b hb => by omega

end

theorem infoBS : (Tryz.prog.info? 22).map (fun i => (i.zero, i.size, i.bytes)) = some (some (.slice none 0 0), 1, 24) := by kernel_rfl

/-- 'append(addrs, x)'. -/
theorem wpList_AR_add {w : World} {ops : Array Oper} {rest : List Oper} {o : Oper} {a : Act} {Q : Exit → Act → World → Prop} (hgd : o.guard = none) (s x : Operand)
    (ho : o.op = .call { callee := .builtin .append, args := #[s, x], argTypes := #[27, 27] }) (base : Nat) (v : Value) (vs : List Value) (xv : Value) (h1 : xv.oneCell' = true) (hs : a.eval s = v) (n : Nat) (hR : w.ownsRow base 22 1 v n vs)
    (q : Nat) (hq : w.heap.size = q) (hx : a.eval x = .slice (some ⟨q, 0, none⟩) 1 1) (hlen : n ≤ 100000) (hbase : base ≤ w.heap.size)
    (h : ∀ a' c' w', w'.ownsRow base 22 1 (.slice a' (n + 1) c') (n + 1) (vs ++ [xv]) → w.grownBy w' v.ownBlock → (∀ g, (Value.slice a' (n + 1) c').ownBlock = some g → v.ownBlock = some g ∨ w.heap.size ≤ g) → wpList Tryz.prog ops Q rest (a.put o.dst (.slice a' (n + 1) c')) w') : wpList Tryz.prog ops Q (o :: rest) a (w.alloc (.cells #[xv] 22)) := by
  subst hq
  obtain ⟨i9, hi9, hy0, hy1, hy2⟩ := info_parts infoBS
  have hown := World.ownsRow.alloc hR (.cells #[xv] 22)
  refine wpList_append_own_at (w := w.alloc (.cells #[xv] 22)) hgd s x 27 ho base 22 i9 (.slice none 0 0) 1 24 Tryz.underlying27 hi9 hy0 hy1 hy2 rfl (by decide) v n vs hs hown ⟨w.heap.size, 0, none⟩ 1 1 [xv] hx rfl (cell_one_new _ _ _) (by intro z hz; simp at hz; rw [hz]; exact h1) (by unfold maxLen; omega) (by omega) (by simp; omega) ?_
  intro v' w' ho' hg' _ hloc
  have hsh : ∃ a' c', v' = .slice a' (n + 1) c' := by
    rcases ho'.2 with ⟨_, h0⟩ | ⟨g, cap, cur, rfl, _⟩
    · omega
    · exact ⟨_, _, rfl⟩
  obtain ⟨a', c', rfl⟩ := hsh
  refine h a' c' w' ho' (grownBy_trans (World.grownBy_alloc w _ _) hg') fun g hg => ?_
  rcases hloc with e2 | e2
  · exact .inl (e2.symm.trans hg)
  · rw [e2] at hg
    simp at hg
    exact .inr (by omega)

/-- What worldOf leaves. -/
def Wld (d : Nat) (s : Stt d) (lo wB mB : Nat) (ps : List Value) (w' : World) : Prop :=
  WBx w' wB mB s.1 s.2.1 s.2.2.1 s.2.2.2.1 ∧ w'.ownsMap Tryz.prog 9 tokR mB 64 (mapD (adrL s.2.2.2.2) ps s.2.2.2.2.length) ∧ (∀ i (h : i < s.2.2.2.2.length), HeldIs (wB + 1) (fun q => wB < q ∧ q < w'.heap.size) w' d s.2.2.2.2[i] (ps.getD i .nilIface)) ∧ lo ≤ mB ∧ mB < wB
def WldEnd (d : Nat) (s : Stt d) (w : World) (e : Ending) (w' : World) : Prop :=
  Below w.heap.size w w' ∧ ((staB d s = false ∧ e = .returned (.tuple #[.pointer none, .bool false])) ∨ (staB d s = true ∧ ∃ wB mB ps, e = .returned (.tuple #[.pointer (some ⟨wB, 0, none⟩), .bool true]) ∧ Wld d s w.heap.size wB mB ps w'))
end Go.Proofs.YtngjhimieacjhaaGreatDoor
/-
  slices.Sorted(maps.Keys(m)) at the entries' map, by the shelf's contracts; the program's sorted.
-/
namespace Go.Proofs.YtngjhimieacjhaaGreatDoor
open Go.RowKit Go.Maps Go.Sort Go.Shelf
set_option linter.unusedVariables false
set_option linter.unusedSimpArgs false

theorem strC_u8 (ks : List (List Int)) : (ks.map u8s).map encStr = strC ks := by
  rw [List.map_map]
  rfl

/-- slices.Sort's two contracts at this program, at the fence that asks nothing. -/
theorem sorts_in (m : Nat) : AnyZ.SortsIn Tryz.prog Tryz.sortedH_ren Fence.wide m :=
  ⟨fun blk off cap ss W hH hblk hsz => callsIn_wide.2 (AnyM.slices_Sort_string Tryz.sortH blk off cap ss W hH hblk hsz),
   fun p cap W => callsIn_wide.2 (AnyM.slices_Sort_string_none Tryz.sortH p cap W)⟩

set_option maxHeartbeats 2000000 in
theorem sorted_call {H : Type} (a b nn : Nat) (D0 : DataW H) (R : Value → Option (DataW H × List MemPlace)) (w : World) (hc : w.cell? ⟨a, 4, none⟩ = some (.map (some b))) (hown : w.ownsMap Tryz.prog 9 R b nn D0) (hmax : Maps.size D0 ≤ maxLen) (hbytes : Maps.size D0 * 16 ≤ 140737488355328) :
    Calls Tryz.prog 49 #[.pointer (some ⟨a, 0, none⟩)] w fun e w' => ∃ (v : Value) (ss : List (List UInt8)), e = .returned v ∧ ss.Perm (Go.strKeys D0) ∧
      w'.ownsRow w.heap.size 9 1 v ss.length ((ss.mergeSort (fun x y => decide (x ≤ y))).map encStr) ∧ (v = .slice none 0 0 ↔ ss = []) ∧ Below w.heap.size w w' := by
  refine (callsIn_wide (n := 6)).1 ?_
  have hbl := hown.lt
  have hseq : SeqGives Fence.wide 2 Tryz.prog 87 #[.pointer (some ⟨w.heap.size, 0, none⟩)] encStr (fun ss => ss.Perm (Go.strKeys D0)) (Maps.size D0) (w.alloc (.cells #[.map (some b)] 71)) :=
    AnyZ.keys_gives (ρ := Tryz.keysH_ren) { Tryz.keysH with } Fence.wide _ trivial rfl (by omega) w.heap.size b nn D0 _ (by simp) (by simp) (by
      obtain ⟨es, clock, hb, Ft, hs, hD⟩ := hown
      exact ⟨es, clock, (Below.heap_alloc _ _ b hbl).trans hb, Ft, hs, hD⟩)
  have cK : ∀ mb W, CallsIn Fence.wide 5 Tryz.prog 69 #[.map mb] W fun e w' => e = .returned (.func (.func 87) #[] #[.pointer (some ⟨W.heap.size, 0, none⟩)]) ∧ w' = W.alloc (.cells #[.map mb] 71) := fun mb W => AnyZ.keys_in Tryz.keysH Fence.wide 5 trivial rfl mb W
  have cS := AnyZ.sorted_in Tryz.sortedH Fence.wide 5 trivial trivial trivial trivial rfl (by omega) (sorts_in _) (enters_of Tryz.func86 (by kernel_rfl) rfl) 87 #[.pointer (some ⟨w.heap.size, 0, none⟩)] trivial (enters_of Tryz.func87 (by kernel_rfl) rfl) _ _ hmax hbytes _ hseq
  change CallsIn _ _ Tryz.prog 68 _ _ _ at cS
  have hfK : Fence.wide.fn 69 := trivial
  have hfS : Fence.wide.fn 68 := trivial
  refine callsIn_of_wp Tryz.func49 rfl trivial ?_ rfl
  simp only [Tryz.ntmps49, List.size_toArray, List.length_cons, List.length_nil, Nat.reduceAdd, Nat.reduceSub, Array.replicate_succ, Array.replicate_zero, List.push_toArray, List.append_toArray, List.nil_append, List.cons_append]
  gi_wp2_with (first
    | (gi_at_call 69; refine (cK _ _).mono ?_; rintro e w' ⟨rfl, rfl⟩)
    | (gi_at_call 68; refine cS.mono ?_; rintro e w' ⟨v, ss, rfl, hS, hrow, hnil, hb⟩))
  go_ret
  exact ⟨v, ss, rfl, hS, ownsRow_base_a hrow (by simp), hnil, ((Below.refl _ w).alloc (Nat.le_refl _) _).trans (hb.mono (by simp))⟩

/-- sorted gives the addresses of a world's entries, in their order. -/
theorem sorted_any {d : Nat} {s : Stt d} {lo wB mB : Nat} {ps : List Value} {w : World} (hW : Wld d s lo wB mB ps w) (hst : staB d s = true) :
    Calls Tryz.prog 49 #[.pointer (some ⟨wB, 0, none⟩)] w fun e w' => ∃ y, e = .returned y ∧ SR w' w.heap.size y (adrL s.2.2.2.2) ∧ Below w.heap.size w w' := by
  obtain ⟨g1, g2, g3, g4, g5⟩ := hW
  have hl := staB_len hst
  have hup := staB_up hst
  rw [← adrL_len] at g2 hl
  have hz : Maps.size (mapD (adrL s.2.2.2.2) ps (adrL s.2.2.2.2).length) ≤ 16 := by
    rw [mapD_listU _ ps _ hup]
    simp [Maps.size, entF]
    omega
  refine (sorted_call wB mB 64 _ tokR w (by rw [cell_of_row w wB 4 _ _ _ g1]; rfl) g2 (by unfold maxLen; omega) (by omega)).mono ?_
  rintro e w' ⟨v, ss, rfl, hp, hrow, -, hb⟩
  have hs := sorted_keys hup hp
  have hlen : ss.length = (adrL s.2.2.2.2).length := by
    have := congrArg List.length hs
    simpa using this
  rw [hs, strC_u8, hlen] at hrow
  exact ⟨v, rfl, hrow, hb⟩
end Go.Proofs.YtngjhimieacjhaaGreatDoor
/-
  markActS, markPlan: all that a list of acts of the call's own holds is marked, and nothing else is turned.
-/
namespace Go.Proofs.YtngjhimieacjhaaGreatDoor
open Go.RowKit
set_option linter.unusedVariables false
set_option linter.unusedSimpArgs false

/-- Record i as it was, in blocks of its window. -/
def Whole1 (w : World) (d g : Nat) (s : Nat → Nat) (it : Rcd d) (i : Nat) : Prop := ∃ cs B, w.rangeAt g (i * 9) cs ∧ ROwn w d cs it B ∧ ∀ b ∈ B, s i ≤ b ∧ b < s (i + 1)

/-- What stands while the records from k on are still as they were. -/
def MkS (w0 : World) (d g : Nat) (l : List (Rcd d)) (s : Nat → Nat) (k : Nat) (w : World) : Prop :=
  w.there g 0 (l.length * 9) ∧ (∀ i (h : i < l.length), k ≤ i → Whole1 w d g s l[i] i) ∧ Turned (List.range' g (s l.length - g)) w0 w

/-- The same while record k is being marked; its five slices stand in their cells. -/
def MkK9 (w0 : World) (d g : Nat) (l : List (Rcd d)) (s : Nat → Nat) (k : Nat) (c1 c5 c6 c7 c8 : Value) (w : World) : Prop :=
  MkS w0 d g l s (k + 1) w ∧ w.cell? ⟨g, k * 9 + 1, none⟩ = some c1 ∧ w.cell? ⟨g, k * 9 + 3 + 2, none⟩ = some c5 ∧ w.cell? ⟨g, k * 9 + 3 + 3, none⟩ = some c6 ∧ w.cell? ⟨g, k * 9 + 3 + 4, none⟩ = some c7 ∧ w.cell? ⟨g, k * 9 + 8, none⟩ = some c8

theorem cell_store_ne {w : World} {g o : Nat} {v : Value} {x : Addr} (h : x.block = g → x.spot = none → x.off ≠ o) : (w.setCell ⟨g, o, none⟩ v).cell? x = w.cell? x := World.cell?_setCells_out g [v] o w x (fun e1 e2 => by have := h e1 e2; simp; omega)

variable {w0 w w' : World} {d g k : Nat} {l : List (Rcd d)} {s : Nat → Nat} {c1 c5 c6 c7 c8 : Value}

theorem mks_store (h : MkS w0 d g l s (k + 1) w) (hw : ∀ i, i < l.length → s i ≤ s (i + 1)) (hg0 : g < s 0) (hk : k < l.length) (j : Nat) (hj : j < 9) (v : Value) : MkS w0 d g l s (k + 1) (w.setCell ⟨g, k * 9 + j, none⟩ v) := by
  obtain ⟨h1, h2, h3⟩ := h
  have hg := grown1 w g (k * 9 + j) v
  have hwin := win_mono hw l.length 0 (by omega) (by omega)
  refine ⟨?_, fun i hi hik => ?_, ?_⟩
  · have := World.there_setCells h1 g (k * 9 + j) [v]
    exact this
  · obtain ⟨cs, B, hr, ho, hB⟩ := h2 i hi hik
    have hl := ho.len
    have hw1 := win_mono hw i 0 (by omega) (by omega)
    refine ⟨cs, B, fun q u hu => ?_, ho.agree fun b hb => ?_, hB⟩
    · have hq : q < 9 := by rw [← hl]; exact (List.getElem?_eq_some_iff.1 hu).1
      rw [← hr q u hu]
      exact cell_store_ne (by intro _ _; simp; omega)
    · have hb' := hB b hb
      exact hg.block b (ho.lt b hb) (by simp; omega)
  · refine h3.trans (Turned.of_grown hg fun b hb => ?_)
    simp at hb
    subst hb
    simp only [List.mem_range'_1]
    omega

theorem mks_mark {C : List Nat} (h : MkS w0 d g l s (k + 1) w) (hw : ∀ i, i < l.length → s i ≤ s (i + 1)) (hg0 : g < s 0) (hk : k < l.length) (hT : Turned C w w') (hC : ∀ b ∈ C, s k ≤ b ∧ b < s (k + 1)) (hgl : g < w.heap.size) : MkS w0 d g l s (k + 1) w' := by
  obtain ⟨h1, h2, h3⟩ := h
  have hgC : g ∉ C := fun hm => by have := hC g hm; have := win_mono hw k 0 (by omega) (by omega); omega
  have hgb := hT.block g hgl hgC
  refine ⟨fun q hq => ?_, fun i hi hik => ?_, h3.trans (hT.mono fun b hb => ?_)⟩
  · obtain ⟨q1, q2⟩ := h1 q hq
    exact ⟨by rw [World.cell?_of_block (w := w) (w' := w') hgb]; exact q1, by rw [World.frozen?_of_block (w := w) (w' := w') hgb]; exact q2⟩
  · obtain ⟨cs, B, hr, ho, hB⟩ := h2 i hi hik
    have hw1 := win_mono hw i (k + 1) (by omega) (by omega)
    refine ⟨cs, B, fun q u hu => (World.cell?_of_block hgb).trans (hr q u hu), ho.agree fun b hb => hT.block b (ho.lt b hb) fun hm => ?_, hB⟩
    have e1 := hB b hb
    have e2 := hC b hm
    omega
  · have e2 := hC b hb
    have hw1 := win_mono hw l.length (k + 1) (by omega) (by omega)
    have hw2 := win_mono hw k 0 (by omega) (by omega)
    simp only [List.mem_range'_1]
    omega

theorem mk9_store (h : MkK9 w0 d g l s k c1 c5 c6 c7 c8 w) (hw : ∀ i, i < l.length → s i ≤ s (i + 1)) (hg0 : g < s 0) (hk : k < l.length) (j : Nat) (hj : j = 0 ∨ j = 2 ∨ j = 3 ∨ j = 4) (v : Value) : MkK9 w0 d g l s k c1 c5 c6 c7 c8 (w.setCell ⟨g, k * 9 + j, none⟩ v) := by
  obtain ⟨h1, q1, q5, q6, q7, q8⟩ := h
  refine ⟨mks_store h1 hw hg0 hk j (by omega) v, ?_, ?_, ?_, ?_, ?_⟩
  · rw [← q1]; exact cell_store_ne (by intro _ _; simp; omega)
  · rw [← q5]; exact cell_store_ne (by intro _ _; simp; omega)
  · rw [← q6]; exact cell_store_ne (by intro _ _; simp; omega)
  · rw [← q7]; exact cell_store_ne (by intro _ _; simp; omega)
  · rw [← q8]; exact cell_store_ne (by intro _ _; simp; omega)

theorem mk9_lt (h : MkK9 w0 d g l s k c1 c5 c6 c7 c8 w) : g < w.heap.size := World.block_lt_of_cell? w _ h.2.1
theorem mk9_mark {C : List Nat} (h : MkK9 w0 d g l s k c1 c5 c6 c7 c8 w) (hw : ∀ i, i < l.length → s i ≤ s (i + 1)) (hg0 : g < s 0) (hk : k < l.length) (hT : Turned C w w') (hC : ∀ b ∈ C, s k ≤ b ∧ b < s (k + 1)) : MkK9 w0 d g l s k c1 c5 c6 c7 c8 w' := by
  have hgl := mk9_lt h
  obtain ⟨h1, q1, q5, q6, q7, q8⟩ := h
  have hgC : g ∉ C := fun hm => by have := hC g hm; have := win_mono hw k 0 (by omega) (by omega); omega
  have hgb := hT.block g hgl hgC
  exact ⟨mks_mark h1 hw hg0 hk hT hC hgl, (World.cell?_of_block hgb).trans q1, (World.cell?_of_block hgb).trans q5, (World.cell?_of_block hgb).trans q6, (World.cell?_of_block hgb).trans q7, (World.cell?_of_block hgb).trans q8⟩

theorem mk9_cell (h : MkK9 w0 d g l s k c1 c5 c6 c7 c8 w) (hk : k < l.length) (j : Nat) (hj : j < 9) : (∃ y, w.cell? ⟨g, k * 9 + j, none⟩ = some y) ∧ w.frozen? ⟨g, k * 9 + j, none⟩ = false := by
  obtain ⟨q1, q2⟩ := h.1.1 (k * 9 + j) (by omega)
  rw [Nat.zero_add] at q1 q2
  exact ⟨Option.isSome_iff_exists.1 q1, q2⟩
end Go.Proofs.YtngjhimieacjhaaGreatDoor
