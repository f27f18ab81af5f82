/-
  Texts that a law leans on, one behind the other; no statement is proved here.
-/
import Derived.Test.YtngjhimieacjhaaGreatDoorPk33
import Derived.Test.YtngjhimieacjhaaGreatDoorPk35
import Derived.Test.YtngjhimieacjhaaGreatDoorPk15
/-
  Differ of the program: what the two worlds, a round of the loop, and what comes behind it ask for.
-/
namespace Go.Proofs.YtngjhimieacjhaaGreatDoor
open Go.RowKit Go.Maps Go.Shelf
set_option linter.unusedVariables false
set_option linter.unusedSimpArgs false

theorem enc_u8s (xs : List Int) : Go.Proofs.encStr (u8s xs) = .string (strOf xs) := rfl

/-- What stands in a round of Differ's loop: w0 is the world ahead of it. -/
structure DfR (D : Nat) (la lb : List (Ntr (D + 1))) (DA DB : DataW Value) (w0 : World) (mA mB : Nat) (left : Lit → Bool) (cnt n : Nat) (Dt : DataW Value) (wr : World) : Prop where
  rng : wr.ranges Tryz.prog 9 tokR mB w0.heap.size 64 DB left cnt
  own : wr.ownsMap Tryz.prog 9 tokR mA n Dt
  nle : n + cnt ≤ 200
  grw : w0.grownBy wr (some mA)
  inv : DInv D la lb DA left Dt

section
variable {D : Nat} {la lb : List (Ntr (D + 1))} {DA DB : DataW Value} {w0 wr w2 W4 W5 : World} {mA mB cnt cnt2 n n' : Nat} {left left' : Lit → Bool} {Dt Dt' : DataW Value} {o : Obj}
theorem dfr_own (h : DfR D la lb DA DB w0 mA mB left cnt n Dt wr) (hg2 : wr.grownBy w2 (some w0.heap.size)) (hne : mA < w0.heap.size) (hB : Below (w2.alloc o).heap.size (w2.alloc o) W4) : W4.ownsMap Tryz.prog 9 tokR mA n Dt :=
  ((h.own.kept hg2 (by simp; omega)).alloc o).kept (below_grows hB none) (by simp)
theorem dfr_step (h : DfR D la lb DA DB w0 mA mB left cnt n Dt wr) (hg2 : wr.grownBy w2 (some w0.heap.size)) (hrg2 : w2.ranges Tryz.prog 9 tokR mB w0.heap.size 64 DB left' cnt2) (hlt : cnt2 < cnt) (hmA : mA < w0.heap.size) (hmB : mB ≠ mA) (hB : Below (w2.alloc o).heap.size (w2.alloc o) W4) (hO : W5.ownsMap Tryz.prog 9 tokR mA n' Dt') (hg5 : W4.grownBy W5 (some mA)) (hn : n' ≤ n + 1) (hI : DInv D la lb DA left' Dt') :
    DfR D la lb DA DB w0 mA mB left' cnt2 n' Dt' W5 := by
  have hnl := h.nle
  refine ⟨?_, hO, by omega, ?_, hI⟩
  · exact ((hrg2.alloc o).kept (below_grows hB none) (by simp) (by simp)).kept hg5 (by simpa using hmB) (by simp; omega)
  · refine grown_on (grown_on (grown_on (grown_on h.grw hg2 ?_) (World.grownBy_alloc w2 o none) (by simp)) (below_grows hB none) (by simp)) hg5 (fun j hj => .inl hj)
    intro j hj
    simp at hj
    omega
/-- What lay ahead of the loop lies as it lay, but for the one map. -/
theorem dfr_old (h : DfR D la lb DA DB w0 mA mB left cnt n Dt wr) (hg2 : wr.grownBy w2 (some w0.heap.size)) (hB : Below (w2.alloc o).heap.size (w2.alloc o) W4) : ∀ q, q < w0.heap.size → q ≠ mA → W4.heap[q]? = w0.heap[q]? := fun q h1 h2 => by
  have hz := h.grw.size
  have hz2 := hg2.size
  exact (hB.block q (by simp; omega)).trans ((Below.heap_alloc w2 o q (by omega)).trans ((hg2.block q (by omega) (by simp; omega)).trans (h.grw.block q h1 (by simp; omega))))
end

theorem samE_at {D : Nat} {la : List (Ntr (D + 1))} {e : Ntr (D + 1)} (hA : ∀ i, i < (adrL la).length → upB (adrL la) i = true) {i : Nat} (hi : i < la.length) (he : (la[i]).1 = e.1) : samE D la e = decide (cmpV (D + 1) (la[i]).2.1 e.2.1 = 0) := by
  unfold samE
  rw [(entA_at hA hi he).2, hasA_iff.2 ⟨i, by rw [adrL_len]; exact hi, by rw [adrL_at la hi]; exact he⟩]
  rfl
theorem samE_no {D : Nat} {la : List (Ntr (D + 1))} {e : Ntr (D + 1)} (h : hasA (adrL la) e.1 = false) : samE D la e = false := by
  unfold samE
  rw [h]
  rfl

/-- What a round asks for. -/
structure DRnd (D : Nat) (la lb : List (Ntr (D + 1))) (DA DB : DataW Value) (w0 w4 : World) (wA mA mB cnt2 n : Nat) (Dt : DataW Value) (left' : Lit → Bool) (key : List Int) (sm hb : Bool) (m2 : Option Nat) (a2 : Option Addr) (n2 c2 : Nat) (t2 : Bool) (u2 : Int) : Prop where
  siz : w0.heap.size + 1 ≤ w4.heap.size ∧ wA < w0.heap.size ∧ mA < wA ∧ n ≤ 200
  lit : keyOf Tryz.prog 9 (.string (strOf key)) = some (.string (u8s key))
  cel : ∀ wx, Below (w4.alloc (.cells #[.map m2, .slice a2 n2 c2, .bool t2, .int .i64 u2] 62)).heap.size (w4.alloc (.cells #[.map m2, .slice a2 n2 c2, .bool t2, .int .i64 u2] 62)) wx → wx.cell? ⟨wA, 4, none⟩ = some (.map (some mA))
  own : ∀ wx, Below (w4.alloc (.cells #[.map m2, .slice a2 n2 c2, .bool t2, .int .i64 u2] 62)).heap.size (w4.alloc (.cells #[.map m2, .slice a2 n2 c2, .bool t2, .int .i64 u2] 62)) wx → wx.ownsMap Tryz.prog 9 tokR mA n Dt
  has : ∀ wx, Below (w4.alloc (.cells #[.map m2, .slice a2 n2 c2, .bool t2, .int .i64 u2] 62)).heap.size (w4.alloc (.cells #[.map m2, .slice a2 n2 c2, .bool t2, .int .i64 u2] 62)) wx → Calls Tryz.prog 38 #[.pointer (some ⟨wA, 0, none⟩), .string (strOf key)] wx fun e w' => e = .returned (.bool hb) ∧ Below wx.heap.size wx w'
  inn : hb = true → ∃ m1 a1 n1 c1 t1 u1, (∀ wx, Below (w4.alloc (.cells #[.map m2, .slice a2 n2 c2, .bool t2, .int .i64 u2] 62)).heap.size (w4.alloc (.cells #[.map m2, .slice a2 n2 c2, .bool t2, .int .i64 u2] 62)) wx → (Instr.lookup 71 (.map (some mA)) (.string (strOf key)) false).run Tryz.prog wx = .ok (.agg #[.map m1, .slice a1 n1 c1, .bool t1, .int .i64 u1]) wx) ∧
    ∀ wx, Below (w4.alloc (.cells #[.map m2, .slice a2 n2 c2, .bool t2, .int .i64 u2] 62)).heap.size (w4.alloc (.cells #[.map m2, .slice a2 n2 c2, .bool t2, .int .i64 u2] 62)) wx → Calls Tryz.prog 39 #[.iface 59 (.agg #[.map m1]), .iface 59 (.agg #[.map m2])] wx fun e w' => e = .returned (.bool sm) ∧ Below wx.heap.size wx w'
  out : hb = false → sm = false
  del : sm = true → ∀ W W', Below (w4.alloc (.cells #[.map m2, .slice a2 n2 c2, .bool t2, .int .i64 u2] 62)).heap.size (w4.alloc (.cells #[.map m2, .slice a2 n2 c2, .bool t2, .int .i64 u2] 62)) W → W'.ownsMap Tryz.prog 9 tokR mA n (Dt.del (.string (u8s key))) → W.grownBy W' (some mA) → DfR D la lb DA DB w0 mA mB left' cnt2 n (Dt.del (.string (u8s key))) W'
  put : sm = false → ∀ W W', Below (w4.alloc (.cells #[.map m2, .slice a2 n2 c2, .bool t2, .int .i64 u2] 62)).heap.size (w4.alloc (.cells #[.map m2, .slice a2 n2 c2, .bool t2, .int .i64 u2] 62)) W → W'.ownsMap Tryz.prog 9 tokR mA (n + 1) (Dt.put (.string (u8s key)) (.held (.agg #[.map m2, .slice a2 n2 c2, .bool t2, .int .i64 u2]))) → W.grownBy W' (some mA) → DfR D la lb DA DB w0 mA mB left' cnt2 (n + 1) (Dt.put (.string (u8s key)) (.held (.agg #[.map m2, .slice a2 n2 c2, .bool t2, .int .i64 u2]))) W'

theorem dfL_byt {D : Nat} {la lb : List (Ntr (D + 1))} (bA : ∀ i (h : i < la.length), ∀ y ∈ (la[i]).1, Byt y) (bB : ∀ i (h : i < lb.length), ∀ y ∈ (lb[i]).1, Byt y) : ∀ x ∈ dfL D la lb, ∀ y ∈ x, Byt y := by
  intro x hx
  have h := mem_fold _ _ _ hx
  simp only [List.not_mem_nil, or_false, List.mem_append] at h
  rcases h with h | h
  · obtain ⟨i, hi, rfl⟩ := fltA_mem h
    exact bA i hi
  · obtain ⟨i, hi, rfl⟩ := fltA_mem h
    exact bB i hi

/-- The two worlds, ahead of the loop. -/
structure DTwo (D : Nat) (s t : Stt (D + 1)) (w w0 : World) (loA loB wA mA wB mB : Nat) (pA pB : List Value) : Prop where
  hA : Wld (D + 1) s loA wA mA pA w0
  hB : Wld (D + 1) t loB wB mB pB w0
  hlo : wA < loB
  hloA : w.heap.size ≤ loA
  sA : staB (D + 1) s = true
  sB : staB (D + 1) t = true
  bA : ∀ i (h : i < s.2.2.2.2.length), ∀ y ∈ (s.2.2.2.2[i]).1, Byt y
  bB : ∀ i (h : i < t.2.2.2.2.length), ∀ y ∈ (t.2.2.2.2[i]).1, Byt y
  hb0 : Below w.heap.size w w0

section
variable {D : Nat} {s t : Stt (D + 1)} {w w0 : World} {loA loB wA mA wB mB : Nat} {pA pB : List Value}

theorem dsizes (H : DTwo D s t w w0 loA loB wA mA wB mB pA pB) : mA < wA ∧ wA < w0.heap.size ∧ mB ≠ mA ∧ wA < mB ∧ mB < wB ∧ w.heap.size ≤ mA := by
  obtain ⟨hA, hB, hlo, hloA, sA, sB, bA, bB, hb0⟩ := H
  obtain ⟨g1, g2, g3, g4, g5⟩ := hA
  obtain ⟨k1, k2, k3, k4, k5⟩ := hB
  have h1 := (Array.getElem?_eq_some_iff.1 g1).1
  exact ⟨g5, h1, by omega, by omega, k5, by omega⟩

theorem dstart (H : DTwo D s t w w0 loA loB wA mA wB mB pA pB) : w0.cell? ⟨wB, 4, none⟩ = some (.map (some mB)) ∧ w0.ownsMap Tryz.prog 9 tokR mB 64 (DataW.map (entF (adrL t.2.2.2.2) pB t.2.2.2.2.length)) ∧ ∀ w3, w3.ranges Tryz.prog 9 tokR mB w0.heap.size 64 (DataW.map (entF (adrL t.2.2.2.2) pB t.2.2.2.2.length)) (Maps.has (DataW.map (entF (adrL t.2.2.2.2) pB t.2.2.2.2.length))) (Maps.size (DataW.map (entF (adrL t.2.2.2.2) pB t.2.2.2.2.length))) → w0.grownBy w3 none →
    DfR D s.2.2.2.2 t.2.2.2.2 (DataW.map (entF (adrL s.2.2.2.2) pA s.2.2.2.2.length)) (DataW.map (entF (adrL t.2.2.2.2) pB t.2.2.2.2.length)) w0 mA mB (Maps.has (DataW.map (entF (adrL t.2.2.2.2) pB t.2.2.2.2.length))) (Maps.size (DataW.map (entF (adrL t.2.2.2.2) pB t.2.2.2.2.length))) 64 (DataW.map (entF (adrL s.2.2.2.2) pA s.2.2.2.2.length)) w3 := by
  have hsz := dsizes H
  obtain ⟨hA, hB, hlo, hloA, sA, sB, bA, bB, hb0⟩ := H
  obtain ⟨g1, g2, g3, g4, g5⟩ := hA
  obtain ⟨k1, k2, k3, k4, k5⟩ := hB
  have hu := staB_up sA
  have hv := staB_up sB
  rw [← adrL_len] at g2 k2
  rw [mapD_listU _ _ _ hu] at g2
  rw [mapD_listU _ _ _ hv] at k2
  rw [adrL_len] at g2 k2
  refine ⟨by rw [cell_of_row w0 wB 4 _ _ _ k1]; rfl, k2, fun w3 hr hg => ⟨hr, g2.kept hg (by simp), ?_, hg.but (some mA), dinv_start fun x hx => ?_⟩⟩
  · have := staB_len sB
    simp [Maps.size, entF]
    omega
  · obtain ⟨i, hi, rfl⟩ := has_ent.1 hx
    obtain ⟨m, a, n, c, e, _⟩ := g3 i hi
    refine ⟨.held (pA.getD i .nilIface), ⟨m, a, n, c, _, _, by rw [e]⟩, fun z => ?_⟩
    exact at_ent (fun q hq => hu q (by rw [adrL_len]; exact hq)) hi z

theorem dround (H : DTwo D s t w w0 loA loB wA mA wB mB pA pB) {left : Lit → Bool} {cnt n cnt2 : Nat} {Dt : DataW Value} {wr w4 : World} {x : List UInt8} {c : Value} (hR : DfR D s.2.2.2.2 t.2.2.2.2 (DataW.map (entF (adrL s.2.2.2.2) pA s.2.2.2.2.length)) (DataW.map (entF (adrL t.2.2.2.2) pB t.2.2.2.2.length)) w0 mA mB left cnt n Dt wr) (hlk : left (.string x) = true) (hat : ∀ zd, (DataW.map (entF (adrL t.2.2.2.2) pB t.2.2.2.2.length)).atKey (.string x) zd = .held c) (hrg2 : w4.ranges Tryz.prog 9 tokR mB w0.heap.size 64 (DataW.map (entF (adrL t.2.2.2.2) pB t.2.2.2.2.length)) (fun z => left z && !z.sameKey (.string x)) cnt2) (hlt : cnt2 < cnt) (hg2 : wr.grownBy w4 (some w0.heap.size)) :
    ∃ key sm hb m2 a2 n2 c2 t2 u2, x = u8s key ∧ c = .agg #[.map m2, .slice a2 n2 c2, .bool t2, .int .i64 u2] ∧ DRnd D s.2.2.2.2 t.2.2.2.2 (DataW.map (entF (adrL s.2.2.2.2) pA s.2.2.2.2.length)) (DataW.map (entF (adrL t.2.2.2.2) pB t.2.2.2.2.length)) w0 w4 wA mA mB cnt2 n Dt (fun z => left z && !z.sameKey (.string (u8s key))) key sm hb m2 a2 n2 c2 t2 u2 := by
  obtain ⟨z1, z2, z3, z4, z5, z6⟩ := dsizes H
  obtain ⟨hA, hB, hlo, hloA, sA, sB, bA, bB, hb0⟩ := H
  obtain ⟨g1, g2, g3, g4, g5⟩ := hA
  obtain ⟨k1, k2, k3, k4, k5⟩ := hB
  have hu := staB_up sA
  have hv := staB_up sB
  obtain ⟨j, hj, rfl, rfl⟩ := held_key hat
  rw [adrL_at _ hj] at hlk hrg2 ⊢
  obtain ⟨m2, a2, n2, c2, e2, hP2, -, -⟩ := k3 j hj
  have hs4 := hg2.size
  have hsr := hR.grw.size
  have hsw : w0.heap.size + 1 ≤ w4.heap.size := by
    have := hrg2.lt
    omega
  have hsh := staB_short sB hj
  have hlit := keyS (t.2.2.2.2[j]).1 (by unfold maxLen; omega)
  have hnl := hR.nle
  have hinj : ∀ i (h : i < t.2.2.2.2.length), u8s (t.2.2.2.2[i]).1 = u8s (t.2.2.2.2[j]).1 → i = j := fun i hi e => up_inj hv (by rw [adrL_len]; exact hi) (by rw [adrL_len]; exact hj) (by rw [adrL_at _ hi, adrL_at _ hj]; exact map_byt_inj (bB i hi) (bB j hj) e)
  have hold := hR.inv.old (u8s (t.2.2.2.2[j]).1) (fun i hi e => hlk)
  have hOwn : ∀ (o : Obj) wx, Below (w4.alloc o).heap.size (w4.alloc o) wx → wx.ownsMap Tryz.prog 9 tokR mA n Dt := fun o wx hb => dfr_own hR hg2 (by omega) hb
  have hOld : ∀ (o : Obj) wx, Below (w4.alloc o).heap.size (w4.alloc o) wx → ∀ q, q < w0.heap.size → q ≠ mA → wx.heap[q]? = w0.heap[q]? := fun o wx hb => dfr_old hR hg2 hb
  have hHasD : Maps.has Dt (.string (u8s (t.2.2.2.2[j]).1)) = hasA (adrL s.2.2.2.2) (t.2.2.2.2[j]).1 := by
    rw [hold.1]
    cases hq : hasA (adrL s.2.2.2.2) (t.2.2.2.2[j]).1 with
    | true =>
      obtain ⟨i, hi, e⟩ := hasA_iff.1 hq
      exact has_ent.2 ⟨i, by rw [adrL_len] at hi; exact hi, by rw [e]⟩
    | false =>
      cases hq2 : Maps.has (DataW.map (entF (adrL s.2.2.2.2) pA s.2.2.2.2.length)) (.string (u8s (t.2.2.2.2[j]).1)) with
      | false => rfl
      | true =>
        obtain ⟨i, hi, e⟩ := has_ent.1 hq2
        rw [adrL_at _ hi] at e
        have : hasA (adrL s.2.2.2.2) (t.2.2.2.2[j]).1 = true := hasA_iff.2 ⟨i, by rw [adrL_len]; exact hi, by rw [adrL_at _ hi]; exact (map_byt_inj (bB j hj) (bA i hi) e).symm⟩
        rw [this] at hq
        cases hq
  refine ⟨(t.2.2.2.2[j]).1, samE D s.2.2.2.2 t.2.2.2.2[j], hasA (adrL s.2.2.2.2) (t.2.2.2.2[j]).1, m2, a2, n2, c2, _, _, rfl, e2, ⟨⟨hsw, z2, z1, by omega⟩, hlit, fun wx hb => ?_, hOwn _, fun wx hb => ?_, fun hh => ?_, samE_no, fun hsm W W' hb ho hg => ?_, fun hsm W W' hb ho hg => ?_⟩⟩
  · have := (hOld _ wx hb wA z2 (by omega)).trans g1
    rw [cell_of_row wx wA 4 _ _ _ this]; rfl
  · obtain ⟨v, q, hrun, hv⟩ := (hOwn _ wx hb).look_ok (Maps.string_keyed Tryz.underlying9) Tryz.underlying71 (zero_held wx) (zd := .held heldZ) (zp := []) rfl hlit
    rw [hHasD] at hrun
    have hwbx : WBx wx wA mA s.1 s.2.1 s.2.2.1 s.2.2.2.1 := (hOld _ wx hb wA z2 (by omega)).trans g1
    have hsh : ∃ p0 p1 p2 p3, v = .agg #[p0, p1, p2, p3] ∧ ∃ m a n c t u, p0 = .map m ∧ p1 = .slice a n c ∧ p2 = .bool t ∧ p3 = .int .i64 u := by
      cases hq : Maps.has Dt (.string (u8s (t.2.2.2.2[j]).1)) with
      | true =>
        obtain ⟨d, ⟨m, a, n', c, t', u, rfl⟩, hd⟩ := hR.inv.frm _ hq
        rw [hd] at hv
        simp only [tokR, Option.some.injEq, Prod.mk.injEq, DataW.held.injEq] at hv
        exact ⟨_, _, _, _, hv.1, _, _, _, _, _, _, rfl, rfl, rfl, rfl⟩
      | false =>
        rw [Maps.atKey_of_not_has hq] at hv
        simp only [tokR, Option.some.injEq, Prod.mk.injEq, DataW.held.injEq] at hv
        exact ⟨_, _, _, _, hv.1, _, _, _, _, _, _, rfl, rfl, rfl, rfl⟩
    obtain ⟨p0, p1, p2, p3, rfl, hsh⟩ := hsh
    exact has_any hwbx hsh hrun
  · obtain ⟨i, hi, e⟩ := hasA_iff.1 hh
    rw [adrL_len] at hi
    rw [adrL_at _ hi] at e
    obtain ⟨m1, a1, n1, c1, e1, hP1, -, -⟩ := g3 i hi
    have hatA : ∀ z, Dt.atKey (.string (u8s (t.2.2.2.2[j]).1)) z = .held (pA.getD i .nilIface) := fun z => by
      rw [hold.2 z, ← e, ← adrL_at _ hi]
      exact at_ent (fun q hq => hu q (by rw [adrL_len]; exact hq)) hi z
    refine ⟨m1, a1, n1, c1, (s.2.2.2.2[i]).2.2.2.1, (s.2.2.2.2[i]).2.2.2.2, fun wx hb => ?_, fun wx hb => ?_⟩
    · obtain ⟨v, q, hrun, hv⟩ := (hOwn _ wx hb).lookup (Maps.string_keyed Tryz.underlying9) Tryz.underlying71 (zero_held wx) (zd := .held heldZ) (zp := []) rfl hlit
      rw [hatA] at hv
      simp only [tokR, Option.some.injEq, Prod.mk.injEq, DataW.held.injEq] at hv
      rw [hv.1, e1] at hrun
      exact hrun
    · have hsx : w0.heap.size ≤ wx.heap.size := by have := hb.size; simp at this; omega
      rw [samE_at hu hi e]
      exact sameParts_any (D + 1) w0.heap.size m1 m2 _ _ wx (PSeg.carry (fun q hq => hq.2) (fun q hq => hOld _ wx hb q hq.2 (by omega)) (D + 1) hP1) (PSeg.carry (fun q hq => hq.2) (fun q hq => hOld _ wx hb q hq.2 (by omega)) (D + 1) hP2) hsx (mapB_good (entB_map (staB_ent sA hi))) (mapB_good (entB_map (staB_ent sB hj)))
  · exact dfr_step hR hg2 hrg2 hlt (by omega) z3 hb ho hg (by omega) (dinv_del hR.inv hj hlk hsm hinj)
  · exact dfr_step hR hg2 hrg2 hlt (by omega) z3 hb ho hg (by omega) (dinv_put hR.inv hR.own.isMap hj hlk hsm ⟨m2, a2, n2, c2, _, _, rfl⟩ hinj)

theorem dfin (H : DTwo D s t w w0 loA loB wA mA wB mB pA pB) {left : Lit → Bool} {cnt n : Nat} {Dt : DataW Value} {wr : World} (hR : DfR D s.2.2.2.2 t.2.2.2.2 (DataW.map (entF (adrL s.2.2.2.2) pA s.2.2.2.2.length)) (DataW.map (entF (adrL t.2.2.2.2) pB t.2.2.2.2.length)) w0 mA mB left cnt n Dt wr) (hl : ∀ k, left k = false) :
    Calls Tryz.prog 27 #[.pointer (some ⟨wA, 0, none⟩), .func (.func 40) #[] #[]] wr fun e w' => ∃ a n c, e = .returned (.slice a n c) ∧ Hid (KEnd (dfA D s t) w (.returned (.slice a n c)) w') := by
  obtain ⟨z1, z2, z3, z4, z5, z6⟩ := dsizes H
  obtain ⟨hA, hB, hlo, hloA, sA, sB, bA, bB, hb0⟩ := H
  obtain ⟨g1, g2, g3, g4, g5⟩ := hA
  have hu := staB_up sA
  have hv := staB_up sB
  have hz := hR.grw.size
  have hwb := (hR.grw.block wA z2 (by simp; omega)).trans g1
  have hnl := hR.nle
  have hbw : Below w.heap.size w wr := hb0.grown hR.grw hb0.size (by intro q hq; simp at hq; omega)
  have hsh := dfL_short sA sB
  have hby := dfL_byt bA bB
  have he : dfA D s t = dfL D s.2.2.2.2 t.2.2.2.2 := by unfold dfA; rw [if_pos ⟨sA, sB⟩]
  rw [he]
  refine (addrsD_any (dfL D s.2.2.2.2 t.2.2.2.2) wA mA n Dt wr (by rw [cell_of_row wr wA 4 _ _ _ hwb]; rfl) (by omega) hR.own (by omega) (dfL_asc D _ _) (fun x => dinv_end hR.inv hl hu hv bA bB x) hR.inv.frm (dfL_len sA sB) (fun k hk => ⟨hsh _ (List.getElem_mem _), hby _ (List.getElem_mem _)⟩)).mono ?_
  rintro e w' ⟨u, rfl, B, hO, hBb, hb⟩
  obtain ⟨a, n', c, rfl⟩ := hO.form
  exact ⟨a, n', c, rfl, _, rfl, B, hO, fun b hb => by have := hBb b hb; have := hbw.size; omega, Below.on hbw hb⟩
end
end Go.Proofs.YtngjhimieacjhaaGreatDoor
/-
  Differ of the program: the walk.
-/
namespace Go.Proofs.YtngjhimieacjhaaGreatDoor
open Go.RowKit Go.Maps Go.Shelf
set_option linter.unusedVariables false
set_option linter.unusedSimpArgs false

set_option maxHeartbeats 12800000 in
set_option maxRecDepth 100000 in
theorem impl_Differ_any (D N : Nat) (cs ct : List Value) (s t : Stt (D + 1)) (w : World) (hx : SaSg (fun b => b < N) w (D + 1) cs s) (hy : SaSg (fun b => b < N) w (D + 1) ct t) (hN : N ≤ w.heap.size) (hzs : SaSz (D + 1) s) (hzt : SaSz (D + 1) t) (hEr : Errs w) :
    Calls Tryz.prog 21 #[.agg cs.toArray, .agg ct.toArray] w (KEnd (dfA D s t) w) := by
  have hA : ∀ wx, Below w.heap.size w wx → Agree (fun b => b < N) w wx := fun wx hb => agree_below (hb.mono hN)
  have HA2 : Hid (∀ o o' : Obj, Below w.heap.size w ((w.alloc o).alloc o')) := fun o o' => ((Below.refl _ _).alloc (Nat.le_refl _) o).alloc (by simp) o'
  have HBx : Hid (∀ (o o' : Obj) wx, Below ((w.alloc o).alloc o').heap.size ((w.alloc o).alloc o') wx → wx.heap[w.heap.size]? = some o ∧ wx.heap[w.heap.size + 1]? = some o') := fun o o' wx h => ⟨(h.block _ (by simp; omega)).trans (two_boxes w o o').1, (h.block _ (by simp)).trans (two_boxes w o o').2⟩
  have HWa : Hid (∀ wx, Below w.heap.size w wx → Calls Tryz.prog 26 #[.agg cs.toArray] wx (WldEnd (D + 1) s wx)) := fun wx hb => worldOf_any (D + 1) N cs s wx (hx.agree (hA wx hb)) (by have := hb.size; omega) hzs (hEr.grow hb)
  have HWb : Hid (∀ wx, Below w.heap.size w wx → Calls Tryz.prog 26 #[.agg ct.toArray] wx (WldEnd (D + 1) t wx)) := fun wx hb => worldOf_any (D + 1) N ct t wx (hy.agree (hA wx hb)) (by have := hb.size; omega) hzt (hEr.grow hb)
  have HEa : Hid (∀ wx e w', WldEnd (D + 1) s wx e w' → Below wx.heap.size wx w' ∧ ((staB (D + 1) s = false ∧ e = .returned (.tuple #[.pointer none, .bool false])) ∨ (staB (D + 1) s = true ∧ ∃ wB mB ps, e = .returned (.tuple #[.pointer (some ⟨wB, 0, none⟩), .bool true]) ∧ Wld (D + 1) s wx.heap.size wB mB ps w'))) := fun wx e w' h => h
  have HEb : Hid (∀ wx e w', WldEnd (D + 1) t wx e w' → Below wx.heap.size wx w' ∧ ((staB (D + 1) t = false ∧ e = .returned (.tuple #[.pointer none, .bool false])) ∨ (staB (D + 1) t = true ∧ ∃ wB mB ps, e = .returned (.tuple #[.pointer (some ⟨wB, 0, none⟩), .bool true]) ∧ Wld (D + 1) t wx.heap.size wB mB ps w'))) := fun wx e w' h => h
  obtain ⟨sa, sc, se, sf, rfl, -, hea⟩ := hx.form
  obtain ⟨ta, tc, te, tf, rfl, -, heb⟩ := hy.form
  have HNil : Hid (∀ w', staB (D + 1) s = false ∨ staB (D + 1) t = false → Below w.heap.size w w' → KEnd (dfA D s t) w (.returned (.slice none 0 0)) w') := fun w' h1 h2 => by
    have : dfA D s t = [] := by
      unfold dfA
      rw [if_neg]
      rintro ⟨e1, e2⟩
      rcases h1 with h1 | h1
      · rw [h1] at e1; cases e1
      · rw [h1] at e2; cases e2
    rw [this]
    exact kEnd_nil _ _ h2
  have HTwo : Hid (∀ (w0 : World) (loA loB wA mA wB mB : Nat) (pA pB : List Value), Wld (D + 1) s loA wA mA pA w0 → Wld (D + 1) t loB wB mB pB w0 → wA < loB → w.heap.size ≤ loA → staB (D + 1) s = true → staB (D + 1) t = true → Below w.heap.size w w0 → DTwo D s t w w0 loA loB wA mA wB mB pA pB) := fun w0 loA loB wA mA wB mB pA pB h1 h2 h3 h4 h5 h6 h7 => ⟨h1, h2, h3, h4, h5, h6, fun i hi => (hea.each hi).1, fun i hi => (heb.each hi).1, h7⟩
  clear hx hy hea heb hzs hzt hA hN hEr
  obtain ⟨s0, hs0⟩ : ∃ s0, s0 = s.1 := ⟨_, rfl⟩
  obtain ⟨s1, hs1⟩ : ∃ s1, s1 = s.2.1 := ⟨_, rfl⟩
  obtain ⟨sl, hsl⟩ : ∃ sl, sl = s.2.2.1.length := ⟨_, rfl⟩
  obtain ⟨s3, hs3⟩ : ∃ s3, s3 = s.2.2.2.1 := ⟨_, rfl⟩
  obtain ⟨sn, hsn⟩ : ∃ sn, sn = s.2.2.2.2.length := ⟨_, rfl⟩
  obtain ⟨t0, ht0⟩ : ∃ t0, t0 = t.1 := ⟨_, rfl⟩
  obtain ⟨t1, ht1⟩ : ∃ t1, t1 = t.2.1 := ⟨_, rfl⟩
  obtain ⟨tl, htl⟩ : ∃ tl, tl = t.2.2.1.length := ⟨_, rfl⟩
  obtain ⟨t3, ht3⟩ : ∃ t3, t3 = t.2.2.2.1 := ⟨_, rfl⟩
  obtain ⟨tn, htn⟩ : ∃ tn, tn = t.2.2.2.2.length := ⟨_, rfl⟩
  rw [← hs0, ← hs1, ← hsl, ← hs3, ← hsn] at HWa
  rw [← ht0, ← ht1, ← htl, ← ht3, ← htn] at HWb
  rw [← hs0, ← hs1, ← hsl, ← hs3, ← hsn, ← ht0, ← ht1, ← htl, ← ht3, ← htn]
  clear hs0 hs1 hsl hs3 hsn ht0 ht1 htl ht3 htn
  show Calls _ _ _ _ fun e w' => KEnd (dfA D s t) w e w'
  go_enter Tryz.func21, Tryz.ntmps21
  go_wp2_with fail
  refine (HWa.out _ (HA2.out _ _)).mono ?_
  intro e w1 hE
  obtain ⟨b1, hcase⟩ := HEa.out _ _ _ hE
  have HR1 := hide' (HBx.out _ _ _ b1)
  have HB1 := hide' (Below.on (HA2.out _ _) b1)
  have hz1 : w.heap.size + 2 ≤ w1.heap.size := by have := b1.size; simp at this; omega
  clear b1 hE HWa HEa HBx HA2
  obtain ⟨g0, g1, g2, g3, g4⟩ := five_row HR1.out.2
  rcases hcase with ⟨hs, rfl⟩ | ⟨hs, wA, mA, pA, rfl, hWA⟩
  · go_wp2_with fail
    refine (HWb.out _ HB1.out).mono ?_
    intro e w2 hE
    obtain ⟨b2, hcase⟩ := HEb.out _ _ _ hE
    have HB := hide' (HNil.out w2 (.inl hs) (Below.on HB1.out b2))
    clear hE HWb HEb HNil HTwo b2
    rcases hcase with ⟨ht, rfl⟩ | ⟨ht, wB, mB, pB, rfl, -⟩
    · clear hs ht
      go_wp2
      go_ret
      exact HB.out
    · clear hs ht
      go_wp2
      go_ret
      exact HB.out
  have HWA := hide' hWA
  have HSs := hide' hs
  clear hWA hs
  go_wp2_with fail
  refine (HWb.out _ HB1.out).mono ?_
  intro e w2 hE
  obtain ⟨b2, hcase⟩ := HEb.out _ _ _ hE
  have HB2 := hide' (Below.on HB1.out b2)
  have Hb2 := hide' b2
  clear hE HWb HEb b2 g0 g1 g2 g3 g4 HB1
  rcases hcase with ⟨ht, rfl⟩ | ⟨ht, wB, mB, pB, rfl, hWB⟩
  · have HB := hide' (HNil.out w2 (.inr ht) HB2.out)
    clear HNil HTwo ht
    go_wp2
    go_ret
    exact HB.out
  have H2 : Hid (DTwo D s t w w2 _ _ wA mA wB mB pA pB) := HTwo.out w2 _ _ wA mA wB mB pA pB (wld_on HWA.out Hb2.out) hWB (Array.getElem?_eq_some_iff.1 HWA.out.1).1 (by simp; omega) HSs.out ht HB2.out
  clear HNil HTwo hWB HWA Hb2 HR1 HSs ht
  obtain ⟨hcB, hmB, hStart⟩ := dstart H2.out
  have HStart := hide' hStart
  clear hStart
  go_wp2_with (first
    | (at_range; refine wpList_range_own _ rfl _ 71 rfl 9 62 (Maps.string_keyed Tryz.underlying9) Tryz.underlying71 tokR mB 64 _ rfl hmB ?_; intro w3 hrg3 hg3 hs3; have HR3 := hide' (HStart.out w3 hrg3 hg3); clear hrg3 hg3 hs3)
    | go_in)
  clear HStart hmB hcB HB2
  go_frame
  go_loopw [9, 10] (fun _ _ wr => ∃ left cnt n Dt, DfR D s.2.2.2.2 t.2.2.2.2 (DataW.map (entF (adrL s.2.2.2.2) pA s.2.2.2.2.length)) (DataW.map (entF (adrL t.2.2.2.2) pB t.2.2.2.2.length)) w2 mA mB left cnt n Dt wr) (fun _ _ wr => wr.rangeLeft mB w2.heap.size)
  case atStart => exact ⟨_, _, _, _, HR3.out⟩
  case round =>
    obtain ⟨left, cnt, n, Dt, hR⟩ := hrel
    have HR := hide' hR
    have hrg := hR.rng
    have Hmeas : Hid (wr.rangeLeft mB w2.heap.size = cnt) := hR.rng.left_eq
    clear hR HR3
    go_wp2_with (first
      | (at_next; refine wpList_next_ranges _ rfl _ rfl 9 (Maps.string_keyed Tryz.underlying9) tokR encStr id (fun key kl hk => by obtain ⟨x, hx, _⟩ := Maps.keyOf_str Tryz.underlying9 hk; exact ⟨x, hx⟩) (fun v y hv => ⟨v, rfl⟩) mB w2.heap.size 64 _ _ _ rfl hrg ?_ ?_)
      | go_in)
    · intro hc0 hl0
      have HAd := hide' (dfin H2.out HR.out hl0)
      clear hrg HR hl0 H2
      go_wp2_with fail
      refine HAd.out.mono ?_
      rintro e w4 ⟨ua, un, uc, rfl, hF⟩
      clear HAd
      go_wp2
      go_ret
      exact hF.out
    · intro x c kl yd yp w4 cnt2 hkey hlk hv hat hrg2 hlt hg2 hs2 hen
      obtain ⟨x', ex, rfl, hxl⟩ := Maps.keyOf_str Tryz.underlying9 hkey
      obtain rfl : x = x' := encStr_inj ex
      have hyd : yd = .held c := by
        have : some (DataW.held c, ([] : List MemPlace)) = some (yd, yp) := hv
        simp at this
        exact this.1.symm
      subst hyd
      obtain ⟨key, sm, hb, m2, a2, n2, c2, t2, u2, rfl, rfl, hK⟩ := dround H2.out HR.out hlk hat hrg2 hlt hg2
      rw [enc_u8s] at hen
      rw [enc_u8s]
      obtain ⟨⟨z1, z2, z3, z4⟩, hlit, hcel, hown, hhas, hinn, hout, hdel, hput⟩ := hK
      have HW3 : Hid ((w4.alloc (.cells #[.map m2, .slice a2 n2 c2, .bool t2, .int .i64 u2] 62)).heap[w4.heap.size]? = some (.cells #[.map m2, .slice a2 n2 c2, .bool t2, .int .i64 u2] 62 (0, 0))) := (MapKept.heap_alloc w4 _).1
      have Hky := hide' hlit
      have HCe := hide' hcel
      have HOw := hide' hown
      have HHas := hide' hhas
      have HIn := hide' hinn
      have HOut := hide' hout
      have HDel := hide' hdel
      have HPut := hide' hput
      generalize strOf key = sx at *
      clear hrg hkey hlk hv hat hrg2 hg2 hs2 ex hxl hlit hcel hown hhas hinn hout hdel hput HR H2
      go_wp2_with fail
      clear hen
      generalize w4.alloc (.cells #[.map m2, .slice a2 n2 c2, .bool t2, .int .i64 u2] 62) = W3 at *
      have HBx : Hid (∀ wx, Below W3.heap.size W3 wx → wx.cell? ⟨w4.heap.size, 0, none⟩ = some (.map m2) ∧ wx.cell? ⟨w4.heap.size, 1, none⟩ = some (.slice a2 n2 c2) ∧ wx.cell? ⟨w4.heap.size, 2, none⟩ = some (.bool t2) ∧ wx.cell? ⟨w4.heap.size, 3, none⟩ = some (.int .i64 u2)) := fun wx hb => four_row ((hb.block _ (Array.getElem?_eq_some_iff.1 HW3.out).1).trans HW3.out)
      clear HW3
      cases hb with
      | false =>
        have hsm := HOut.out rfl
        subst hsm
        have HPu := hide' (HPut.out rfl)
        clear HOut HIn HDel HPut
        refine wp_region_held_drew (S := fun w' => w'.cell? ⟨wA, 4, none⟩ = some (.map (some mA))) (by kernel_rfl) (HCe.out W3.drew (Below.refl W3.heap.size W3).drew) (fun hHeld => ?_)
        refine tkY 0 37 hHeld ?_; simp only [Act.put, List.setIfInBounds_toArray, List.set_cons_zero, List.set_cons_succ]
        refine tkY 1 38 hHeld ?_; simp only [Act.put, List.setIfInBounds_toArray, List.set_cons_zero, List.set_cons_succ]
        refine wpAnyH_ready (rs := [2]) (by kernel_rfl) (by simp) ?_
        refine AllReadyH.cons rfl (fun K hK => ?_) AllReadyH.nil
        go_simp
        go_at_call 38
        refine (HHas.out _ (Below.refl W3.heap.size W3).drew).mono ?_
        rintro e w5 ⟨rfl, b5⟩
        have Hb5 := hide' (Below.on (Below.refl W3.heap.size W3).drew b5)
        clear b5
        have hS : (fun w' => w'.cell? ⟨wA, 4, none⟩ = some (.map (some mA))) w5 := HCe.out w5 Hb5.out
        go_wp2_with fail
        refine hK.out _ _ hS (fun hHeld => ?_)
        clear hK
        (try simp only [Act.put, List.setIfInBounds_toArray, List.set_cons_zero, List.set_cons_succ])
        refine tkY 3 40 hHeld ?_; simp only [Act.put, List.setIfInBounds_toArray, List.set_cons_zero, List.set_cons_succ]
        refine tkN 4 41 hHeld ?_
        refine tkN 5 42 hHeld ?_
        refine tkN 6 43 hHeld ?_
        refine tkN 7 44 hHeld ?_
        refine tkN 8 45 hHeld ?_
        refine tkN 9 46 hHeld ?_
        refine tkN 10 47 hHeld ?_
        refine tkN 11 48 hHeld ?_
        refine tkN 12 49 hHeld ?_
        refine tkN 13 50 hHeld ?_
        refine tkN 14 51 hHeld ?_
        refine tkN 15 52 hHeld ?_; simp only [Act.put, List.setIfInBounds_toArray, List.set_cons_zero, List.set_cons_succ]
        refine tkY 16 53 hHeld ?_; simp only [Act.put, List.setIfInBounds_toArray, List.set_cons_zero, List.set_cons_succ]
        refine wpAnyH_done (by kernel_rfl) ?_ _
        clear hHeld
        have hbd : Below W3.heap.size W3 w5.drew := Hb5.out.drew
        have hod := HOw.out _ hbd
        obtain ⟨w7, hrun, hown7, hg7⟩ := World.ownsMap.update hod (Maps.string_keyed Tryz.underlying9) Tryz.underlying71 (by unfold maxLen; omega) Hky.out (val := .agg #[.map m2, .slice a2 n2 c2, .bool t2, .int .i64 u2]) (d := .held (.agg #[.map m2, .slice a2 n2 c2, .bool t2, .int .i64 u2])) (ps := []) rfl
        have HS4 : Hid ((fun w' => w'.cell? ⟨wA, 4, none⟩ = some (.map (some mA)) ∧ w'.cell? ⟨w4.heap.size, 0, none⟩ = some (.map m2) ∧ w'.cell? ⟨w4.heap.size, 1, none⟩ = some (.slice a2 n2 c2) ∧ w'.cell? ⟨w4.heap.size, 2, none⟩ = some (.bool t2) ∧ w'.cell? ⟨w4.heap.size, 3, none⟩ = some (.int .i64 u2)) w5.drew) := ⟨HCe.out _ hbd, HBx.out _ hbd⟩
        have HS5 : Hid ((fun w' => w'.cell? ⟨wA, 4, none⟩ = some (.map (some mA)) ∧ w'.cell? ⟨w4.heap.size, 0, none⟩ = some (.map m2) ∧ w'.cell? ⟨w4.heap.size, 1, none⟩ = some (.slice a2 n2 c2) ∧ w'.cell? ⟨w4.heap.size, 2, none⟩ = some (.bool t2) ∧ w'.cell? ⟨w4.heap.size, 3, none⟩ = some (.int .i64 u2)) w7) := by
          have hk : ∀ q, q < w5.drew.heap.size → q ≠ mA → w7.heap[q]? = w5.drew.heap[q]? := fun q h1 h2 => hg7.block q h1 (by simp; omega)
          obtain ⟨q0, q1, q2, q3, q4⟩ := HS4.out
          have hq : ∀ (b i : Nat) (v : Value), b ≠ mA → w5.drew.cell? ⟨b, i, none⟩ = some v → w7.cell? ⟨b, i, none⟩ = some v := fun b i v hb hv => (World.cell?_of_block (hk b (World.block_lt_of_cell? _ _ hv) hb)).trans hv
          exact ⟨hq _ _ _ (by omega) q0, hq _ _ _ (by omega) q1, hq _ _ _ (by omega) q2, hq _ _ _ (by omega) q3, hq _ _ _ (by omega) q4⟩
        have HFin := hide' (HPu.out _ w7 hbd hown7 hg7)
        clear hown7 hg7 hod
        go_wp2_with fail
        refine wp_region_held_drew (S := fun w' => w'.cell? ⟨wA, 4, none⟩ = some (.map (some mA)) ∧ w'.cell? ⟨w4.heap.size, 0, none⟩ = some (.map m2) ∧ w'.cell? ⟨w4.heap.size, 1, none⟩ = some (.slice a2 n2 c2) ∧ w'.cell? ⟨w4.heap.size, 2, none⟩ = some (.bool t2) ∧ w'.cell? ⟨w4.heap.size, 3, none⟩ = some (.int .i64 u2)) (by kernel_rfl) HS4.out (fun hHeld => ?_)
        clear hbd HS4 HCe HBx HOw HPu Hb5
        generalize w5.drew = w8 at *
        refine tkY 0 59 hHeld ?_; simp only [Act.put, List.setIfInBounds_toArray, List.set_cons_zero, List.set_cons_succ]
        refine tkY 1 60 hHeld ?_; simp only [Act.put, List.setIfInBounds_toArray, List.set_cons_zero, List.set_cons_succ]
        refine tkY 2 61 hHeld ?_; simp only [Act.put, List.setIfInBounds_toArray, List.set_cons_zero, List.set_cons_succ]
        refine tkY 3 62 hHeld ?_; simp only [Act.put, List.setIfInBounds_toArray, List.set_cons_zero, List.set_cons_succ]
        refine tkY 4 63 hHeld ?_; simp only [Act.put, List.setIfInBounds_toArray, List.set_cons_zero, List.set_cons_succ]
        refine tkY 5 64 hHeld ?_; simp only [Act.put, List.setIfInBounds_toArray, List.set_cons_zero, List.set_cons_succ]
        refine wpAnyH_ready (rs := [6]) (by kernel_rfl) (by simp) ?_
        refine AllReadyH.cons rfl (fun K hK => ?_) AllReadyH.nil
        go_simp
        refine hK.out _ _ (HS5.out) (fun hHeld => ?_)
        clear hK
        (try simp only [Act.put, List.setIfInBounds_toArray, List.set_cons_zero, List.set_cons_succ])
        refine wpAnyH_done (by kernel_rfl) ?_ _
        clear hHeld hrun HS5
        go_wp2
        go_roundw
        case rel => exact ⟨_, _, _, _, HFin.out⟩
        case measure => rw [HFin.out.rng.left_eq, Hmeas.out]; exact hlt
      | true =>
        obtain ⟨m1, a1, n1, c1, t1, u1, hLk, hSm⟩ := HIn.out rfl
        have HLk := hide' hLk
        have HSm := hide' hSm
        clear hLk hSm HOut HIn
        have hfd : ∀ wx : World, (Instr.field 62 (.agg #[.map m1, .slice a1 n1 c1, .bool t1, .int .i64 u1]) 0).run Tryz.prog wx = .ok (.agg #[.map m1]) wx := fun wx => by kernel_rfl
        refine wp_region_held_drew (S := fun w' => w'.cell? ⟨wA, 4, none⟩ = some (.map (some mA)) ∧ w'.cell? ⟨w4.heap.size, 0, none⟩ = some (.map m2) ∧ (Instr.lookup 71 (.map (some mA)) (.string sx) false).run Tryz.prog w' = .ok (.agg #[.map m1, .slice a1 n1 c1, .bool t1, .int .i64 u1]) w') (by kernel_rfl) ⟨HCe.out W3.drew (Below.refl W3.heap.size W3).drew, (HBx.out W3.drew (Below.refl W3.heap.size W3).drew).1, HLk.out W3.drew (Below.refl W3.heap.size W3).drew⟩ (fun hHeld => ?_)
        refine tkY 0 37 hHeld ?_; simp only [Act.put, List.setIfInBounds_toArray, List.set_cons_zero, List.set_cons_succ]
        refine tkY 1 38 hHeld ?_; simp only [Act.put, List.setIfInBounds_toArray, List.set_cons_zero, List.set_cons_succ]
        refine wpAnyH_ready (rs := [2]) (by kernel_rfl) (by simp) ?_
        refine AllReadyH.cons rfl (fun K hK => ?_) AllReadyH.nil
        go_simp
        go_at_call 38
        refine (HHas.out _ (Below.refl W3.heap.size W3).drew).mono ?_
        rintro e w5 ⟨rfl, b5⟩
        have Hb5 := hide' (Below.on (Below.refl W3.heap.size W3).drew b5)
        clear b5
        have hS : (fun w' => w'.cell? ⟨wA, 4, none⟩ = some (.map (some mA)) ∧ w'.cell? ⟨w4.heap.size, 0, none⟩ = some (.map m2) ∧ (Instr.lookup 71 (.map (some mA)) (.string sx) false).run Tryz.prog w' = .ok (.agg #[.map m1, .slice a1 n1 c1, .bool t1, .int .i64 u1]) w') w5 := ⟨HCe.out w5 Hb5.out, (HBx.out w5 Hb5.out).1, HLk.out w5 Hb5.out⟩
        go_wp2_with fail
        refine hK.out _ _ hS (fun hHeld => ?_)
        clear hK
        (try simp only [Act.put, List.setIfInBounds_toArray, List.set_cons_zero, List.set_cons_succ])
        refine tkY 3 40 hHeld ?_; simp only [Act.put, List.setIfInBounds_toArray, List.set_cons_zero, List.set_cons_succ]
        refine tkY 4 41 hHeld ?_; simp only [Act.put, List.setIfInBounds_toArray, List.set_cons_zero, List.set_cons_succ]
        refine tkY 5 42 hHeld ?_; simp only [Act.put, List.setIfInBounds_toArray, List.set_cons_zero, List.set_cons_succ]
        refine tkY 6 43 hHeld ?_; simp only [Act.put, List.setIfInBounds_toArray, List.set_cons_zero, List.set_cons_succ]
        refine tkY 7 44 hHeld ?_; simp only [Act.put, List.setIfInBounds_toArray, List.set_cons_zero, List.set_cons_succ]
        refine tkY 8 45 hHeld ?_; simp only [Act.put, List.setIfInBounds_toArray, List.set_cons_zero, List.set_cons_succ]
        refine tkY 9 46 hHeld ?_; simp only [Act.put, List.setIfInBounds_toArray, List.set_cons_zero, List.set_cons_succ]
        refine tkY 10 47 hHeld ?_; simp only [Act.put, List.setIfInBounds_toArray, List.set_cons_zero, List.set_cons_succ]
        refine tkY 11 48 hHeld ?_; simp only [Act.put, List.setIfInBounds_toArray, List.set_cons_zero, List.set_cons_succ]
        refine tkY 12 49 hHeld ?_; simp only [Act.put, List.setIfInBounds_toArray, List.set_cons_zero, List.set_cons_succ]
        refine tkY 13 50 hHeld ?_; simp only [Act.put, List.setIfInBounds_toArray, List.set_cons_zero, List.set_cons_succ]
        refine tkY 14 51 hHeld ?_; simp only [Act.put, List.setIfInBounds_toArray, List.set_cons_zero, List.set_cons_succ]
        refine wpAnyH_ready (rs := [15]) (by kernel_rfl) (by simp) ?_
        refine AllReadyH.cons rfl (fun K hK => ?_) AllReadyH.nil
        go_simp
        go_at_call 39
        refine (HSm.out _ Hb5.out).mono ?_
        rintro e w6 ⟨rfl, b6⟩
        have Hb6 := hide' (Below.on Hb5.out b6)
        clear b6
        have hS : (fun w' => w'.cell? ⟨wA, 4, none⟩ = some (.map (some mA)) ∧ w'.cell? ⟨w4.heap.size, 0, none⟩ = some (.map m2) ∧ (Instr.lookup 71 (.map (some mA)) (.string sx) false).run Tryz.prog w' = .ok (.agg #[.map m1, .slice a1 n1 c1, .bool t1, .int .i64 u1]) w') w6 := ⟨HCe.out w6 Hb6.out, (HBx.out w6 Hb6.out).1, HLk.out w6 Hb6.out⟩
        go_wp2_with fail
        refine hK.out _ _ hS (fun hHeld => ?_)
        clear hK
        (try simp only [Act.put, List.setIfInBounds_toArray, List.set_cons_zero, List.set_cons_succ])
        refine tkY 16 53 hHeld ?_; simp only [Act.put, List.setIfInBounds_toArray, List.set_cons_zero, List.set_cons_succ]
        refine wpAnyH_done (by kernel_rfl) ?_ _
        clear hHeld HLk HSm
        cases sm with
        | false =>
          have HPu := hide' (HPut.out rfl)
          clear HDel HPut
          have hbd : Below W3.heap.size W3 w6.drew := Hb6.out.drew
          have hod := HOw.out _ hbd
          obtain ⟨w7, hrun, hown7, hg7⟩ := World.ownsMap.update hod (Maps.string_keyed Tryz.underlying9) Tryz.underlying71 (by unfold maxLen; omega) Hky.out (val := .agg #[.map m2, .slice a2 n2 c2, .bool t2, .int .i64 u2]) (d := .held (.agg #[.map m2, .slice a2 n2 c2, .bool t2, .int .i64 u2])) (ps := []) rfl
          have HS4 : Hid ((fun w' => w'.cell? ⟨wA, 4, none⟩ = some (.map (some mA)) ∧ w'.cell? ⟨w4.heap.size, 0, none⟩ = some (.map m2) ∧ w'.cell? ⟨w4.heap.size, 1, none⟩ = some (.slice a2 n2 c2) ∧ w'.cell? ⟨w4.heap.size, 2, none⟩ = some (.bool t2) ∧ w'.cell? ⟨w4.heap.size, 3, none⟩ = some (.int .i64 u2)) w6.drew) := ⟨HCe.out _ hbd, HBx.out _ hbd⟩
          have HS5 : Hid ((fun w' => w'.cell? ⟨wA, 4, none⟩ = some (.map (some mA)) ∧ w'.cell? ⟨w4.heap.size, 0, none⟩ = some (.map m2) ∧ w'.cell? ⟨w4.heap.size, 1, none⟩ = some (.slice a2 n2 c2) ∧ w'.cell? ⟨w4.heap.size, 2, none⟩ = some (.bool t2) ∧ w'.cell? ⟨w4.heap.size, 3, none⟩ = some (.int .i64 u2)) w7) := by
            have hk : ∀ q, q < w6.drew.heap.size → q ≠ mA → w7.heap[q]? = w6.drew.heap[q]? := fun q h1 h2 => hg7.block q h1 (by simp; omega)
            obtain ⟨q0, q1, q2, q3, q4⟩ := HS4.out
            have hq : ∀ (b i : Nat) (v : Value), b ≠ mA → w6.drew.cell? ⟨b, i, none⟩ = some v → w7.cell? ⟨b, i, none⟩ = some v := fun b i v hb hv => (World.cell?_of_block (hk b (World.block_lt_of_cell? _ _ hv) hb)).trans hv
            exact ⟨hq _ _ _ (by omega) q0, hq _ _ _ (by omega) q1, hq _ _ _ (by omega) q2, hq _ _ _ (by omega) q3, hq _ _ _ (by omega) q4⟩
          have HFin := hide' (HPu.out _ w7 hbd hown7 hg7)
          clear hown7 hg7 hod
          go_wp2_with fail
          refine wp_region_held_drew (S := fun w' => w'.cell? ⟨wA, 4, none⟩ = some (.map (some mA)) ∧ w'.cell? ⟨w4.heap.size, 0, none⟩ = some (.map m2) ∧ w'.cell? ⟨w4.heap.size, 1, none⟩ = some (.slice a2 n2 c2) ∧ w'.cell? ⟨w4.heap.size, 2, none⟩ = some (.bool t2) ∧ w'.cell? ⟨w4.heap.size, 3, none⟩ = some (.int .i64 u2)) (by kernel_rfl) HS4.out (fun hHeld => ?_)
          clear hbd HS4 HCe HBx HOw HPu Hb6
          generalize w6.drew = w8 at *
          refine tkY 0 59 hHeld ?_; simp only [Act.put, List.setIfInBounds_toArray, List.set_cons_zero, List.set_cons_succ]
          refine tkY 1 60 hHeld ?_; simp only [Act.put, List.setIfInBounds_toArray, List.set_cons_zero, List.set_cons_succ]
          refine tkY 2 61 hHeld ?_; simp only [Act.put, List.setIfInBounds_toArray, List.set_cons_zero, List.set_cons_succ]
          refine tkY 3 62 hHeld ?_; simp only [Act.put, List.setIfInBounds_toArray, List.set_cons_zero, List.set_cons_succ]
          refine tkY 4 63 hHeld ?_; simp only [Act.put, List.setIfInBounds_toArray, List.set_cons_zero, List.set_cons_succ]
          refine tkY 5 64 hHeld ?_; simp only [Act.put, List.setIfInBounds_toArray, List.set_cons_zero, List.set_cons_succ]
          refine wpAnyH_ready (rs := [6]) (by kernel_rfl) (by simp) ?_
          refine AllReadyH.cons rfl (fun K hK => ?_) AllReadyH.nil
          go_simp
          refine hK.out _ _ (HS5.out) (fun hHeld => ?_)
          clear hK
          (try simp only [Act.put, List.setIfInBounds_toArray, List.set_cons_zero, List.set_cons_succ])
          refine wpAnyH_done (by kernel_rfl) ?_ _
          clear hHeld hrun HS5
          go_wp2
          go_roundw
          case rel => exact ⟨_, _, _, _, HFin.out⟩
          case measure => rw [HFin.out.rng.left_eq, Hmeas.out]; exact hlt
        | true =>
          have HDe := hide' (HDel.out rfl)
          have hce := HCe.out _ Hb6.out
          have hown6 := HOw.out _ Hb6.out
          have hky := Hky.out
          clear HPut HCe HBx HOw HDel
          go_wp2_with (at_delete; refine wpList_delete_own _ rfl _ _ 71 9 rfl 62 (Maps.string_keyed Tryz.underlying9) Tryz.underlying71 tokR mA n Dt rfl hown6 (.string sx) (.string (u8s key)) rfl hky ?_; intro w7 hown7 hT7; have HFin := hide' (HDe.out _ w7 Hb6.out hown7 hT7.grown); clear hown7 hT7)
          simp only [Act.put]
          go_roundw
          case rel => exact ⟨_, _, _, _, HFin.out⟩
          case measure => rw [HFin.out.rng.left_eq, Hmeas.out]; exact hlt
end Go.Proofs.YtngjhimieacjhaaGreatDoor
