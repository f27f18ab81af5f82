/-
  Texts that a law leans on, one behind the other; no statement is proved here.
-/
import Derived.Test.YtngjhimieacjhaaGreatDoorPk14
import Derived.Test.YtngjhimieacjhaaGreatDoorPk24
import Derived.Test.YtngjhimieacjhaaGreatDoorPk22
import Derived.Test.YtngjhimieacjhaaGreatDoorPk19
import Derived.Test.YtngjhimieacjhaaGreatDoorPk23
import Derived.Test.YtngjhimieacjhaaGreatDoorPk15
import Derived.Test.YtngjhimieacjhaaGreatDoorPk21
/-
  EntryOf: what it answers (mathematics); what the two functions leave.
-/
namespace Go.Proofs.YtngjhimieacjhaaGreatDoor
open Go.RowKit
set_option linter.unusedVariables false
set_option linter.unusedSimpArgs false

/-- The entry that holds nothing. -/
def ntNil (D : Nat) : Ntr (D + 1) := ([], vNil D, [], false, 0)
/-- What EntryOf answers. -/
def entR (D : Nat) (s : Stt (D + 1)) (x : List Int) : Ntr (D + 1) := if staB (D + 1) s = true ∧ 0 ≤ findK (adrL s.2.2.2.2) x then s.2.2.2.2.getD (findK (adrL s.2.2.2.2) x).toNat (ntNil D) else ntNil D
def entG (D : Nat) (s : Stt (D + 1)) (x : List Int) : Bool := staB (D + 1) s && decide (0 ≤ findK (adrL s.2.2.2.2) x)

/-- What a call that hands out an entry and a word leaves: an entry of the call's own, and the word. -/
def AnsN (D : Nat) (it : Ntr (D + 1)) (bb : Bool) (w : World) (e : Ending) (w' : World) : Prop := ∃ cs, e = .returned (.tuple #[.agg cs.toArray, .bool bb]) ∧ ∃ B, NtOwnD w' (D + 1) cs it B ∧ (∀ b ∈ B, w.heap.size ≤ b) ∧ Below w.heap.size w w'

theorem own_ntNil (D : Nat) (w : World) : NtOwnD w (D + 1) [.slice none 0 0, .int .i64 0, .int .i64 0, .slice none 0 0, .slice none 0 0, .slice none 0 0, .slice none 0 0, .bool false, .int .i64 0] (ntNil D) [] :=
  ⟨_, _, _, _, _, _, _, [], [], [], rfl, tOwn_nil w, own_vNil D w, .inl ⟨rfl, rfl, rfl⟩, rfl, by simp, by simp, by simp⟩

theorem ansN_nil {D : Nat} {w V : World} {rb : Nat} (hb : Below w.heap.size w V) (hrb : w.heap.size ≤ rb) : AnsN D (ntNil D) false w (.returned (.tuple #[.agg #[.slice none 0 0, .int .i64 0, .int .i64 0, .slice none 0 0, .slice none 0 0, .slice none 0 0, .slice none 0 0, .bool false, .int .i64 0], .bool false])) (V.setCells rb 0 [.slice none 0 0, .int .i64 0, .int .i64 0, .slice none 0 0, .slice none 0 0, .slice none 0 0, .slice none 0 0, .bool false, .int .i64 0]) := by
  have hg := grown_setCells rb [.slice none 0 0, .int .i64 0, .int .i64 0, .slice none 0 0, .slice none 0 0, .slice none 0 0, .slice none 0 0, .bool false, .int .i64 0] 0 V
  exact ⟨[.slice none 0 0, .int .i64 0, .int .i64 0, .slice none 0 0, .slice none 0 0, .slice none 0 0, .slice none 0 0, .bool false, .int .i64 0], rfl, [], own_ntNil D _, by simp, hb.grown hg hb.size (by intro j hj; simp at hj; omega)⟩
theorem ansN_of {D : Nat} {it : Ntr (D + 1)} {w V : World} {rb : Nat} {cs : List Value} {B : List Nat} (hb : Below w.heap.size w V) (ho : NtOwnD V (D + 1) cs it B) (hB : ∀ b ∈ B, rb < b) (hrb : w.heap.size ≤ rb) : AnsN D it true w (.returned (.tuple #[.agg cs.toArray, .bool true])) (V.setCells rb 0 cs) := by
  have hg := grown_setCells rb cs 0 V
  exact ⟨cs, rfl, B, ho.agree fun b hb' => hg.block b (ho.lt b hb') (by have := hB b hb'; simp; omega), fun b hb' => by have := hB b hb'; omega, hb.grown hg hb.size (by intro j hj; simp at hj; omega)⟩

theorem ent_no {D : Nat} {s : Stt (D + 1)} {x : List Int} (h : staB (D + 1) s = false ∨ findK (adrL s.2.2.2.2) x < 0) : entR D s x = ntNil D ∧ entG D s x = false := by
  unfold entR entG
  rcases h with h | h
  · rw [h, if_neg (by simp)]
    exact ⟨rfl, rfl⟩
  · rw [if_neg (by omega), decide_eq_false (by omega)]
    exact ⟨rfl, by simp⟩
theorem ent_yes {D : Nat} {s : Stt (D + 1)} {x : List Int} {k : Nat} (h : staB (D + 1) s = true) (hk : k < s.2.2.2.2.length) (hf : findK (adrL s.2.2.2.2) x = k) : entR D s x = s.2.2.2.2[k] ∧ entG D s x = true := by
  unfold entR entG
  rw [if_pos ⟨h, by omega⟩, hf, h]
  refine ⟨?_, by simp⟩
  simp [List.getD_eq_getElem?_getD, hk]
theorem findK_in {ks : List (List Int)} {x : List Int} (h : 0 ≤ findK ks x) : ∃ k : Nat, k < ks.length ∧ findK ks x = k ∧ ks.getD k [] = x := by
  unfold findK at h ⊢
  cases hf : ks.findIdx? (fun k => decide (k = x)) with
  | none => rw [hf] at h; simp at h
  | some i =>
    obtain ⟨h1, h2, _⟩ := List.findIdx?_eq_some_iff_getElem.1 hf
    exact ⟨i, h1, rfl, by rw [List.getD_eq_getElem?_getD, List.getElem?_eq_getElem h1]; simpa using h2⟩
theorem results_cellN {P : Program} {fn : Func} {tmps : Array Value} {w : World} {v : Value} {ad : Addr} (s : Nat) (t : TypeId) (s2 : Nat) (v2 : Value) (hr : fn.results = #[.cell s t, .tmp s2]) (hp : tmps.getD s undef = .pointer (some ad)) (hl : (loadVar t ad).run P w = .ok v w) (h2 : tmps.getD s2 undef = v2) : (results fn tmps).run P w = .ok (.tuple #[v, v2]) w := by
  unfold results
  rw [hr]
  simp only [Array.mapM_eq_mapM_toList, List.mapM_cons, List.mapM_nil, Sem.run_bind, Sem.run_pure, Result.andThen_ok, hp]
  simp [asAddr, hl, ← h2]
theorem ntZ_one : ∀ v ∈ [Value.slice none 0 0, .int .i64 0, .int .i64 0, .slice none 0 0, .slice none 0 0, .slice none 0 0, .slice none 0 0, .bool false, .int .i64 0], v.oneCell' = true := by
  intro v hv
  simp only [List.mem_cons, List.not_mem_nil, or_false] at hv
  rcases hv with rfl | rfl | rfl | rfl | rfl | rfl | rfl | rfl | rfl <;> rfl
end Go.Proofs.YtngjhimieacjhaaGreatDoor
/-
  What stands under an address of the entries' map; what is read of an entry holds bytes.
-/
namespace Go.Proofs.YtngjhimieacjhaaGreatDoor
open Go.RowKit
set_option linter.unusedVariables false
set_option linter.unusedSimpArgs false

/-- What stands under an address, without a word. -/
theorem look_heldF {wx : World} {b : Nat} {ks : List (List Int)} {ps : List Value} {key : List Int} {k : Nat} (hm : wx.ownsMap Tryz.prog 9 tokR b 64 (mapD ks ps ks.length)) (ha : ∀ i, i < ks.length → upB ks i = true) (hb : ∀ i, i < ks.length → ∀ x ∈ ks.getD i [], Byt x) (hy : ∀ y ∈ key, Byt y) (hl : key.length ≤ maxLen) (hk : k < ks.length) (hf : findK ks key = k) :
    (Instr.lookup 71 (.map (some b)) (.string (strOf key)) false).run Tryz.prog wx = .ok (ps.getD k .nilIface) wx := by
  rw [mapD_listU ks ps ks.length ha] at hm
  obtain ⟨v, q, hrun, hv⟩ := hm.lookup (Maps.string_keyed Tryz.underlying9) Tryz.underlying71 (zero_held wx) (zd := .held heldZ) (zp := []) rfl (keyS key hl)
  have hat : ∀ i (h : i < ks.length), ks.getD i [] = ks[i] := fun i h => by rw [List.getD_eq_getElem?_getD, List.getElem?_eq_getElem h]; rfl
  unfold findK at hf
  cases hfi : ks.findIdx? (fun x => decide (x = key)) with
  | none => rw [hfi] at hf; simp at hf
  | some i =>
    rw [hfi] at hf
    obtain rfl : i = k := by simp at hf; omega
    obtain ⟨hk', he0, hmin⟩ := List.findIdx?_eq_some_iff_getElem.1 hfi
    have he : ks.getD i [] = key := by rw [hat i hk']; simpa using he0
    have hn : ∀ j, j < i → ks.getD j [] ≠ key := fun j hj e => by
      have h1 := hmin j hj
      rw [hat j (by omega)] at e
      simp [e] at h1
    obtain ⟨h1, h2⟩ := look_yes (ps := ps) hy hb hk hn he (.held heldZ)
    rw [h2] at hv
    simp only [tokR, Option.some.injEq, Prod.mk.injEq, DataW.held.injEq] at hv
    rw [← hv.1]
    exact hrun

/-- What is read of an entry holds bytes. -/
def NtSg' (N : Nat) (w : World) (d : Nat) (it : Ntr d) : Prop := (∀ x ∈ it.1, Byt x) ∧ ∀ i, i < it.2.2.1.length → ∀ x ∈ it.2.2.1.getD i [], Byt x
theorem NtLS.each {N : Nat} {w : World} {d : Nat} {x : Value} {l : List (Ntr d)} (h : NtLS (fun b => b < N) w d x l) {i : Nat} (hi : i < l.length) : NtSg' N w d l[i] := by
  obtain ⟨a, c, rfl⟩ := h.form
  obtain ⟨b, off, rfl, hb, hat⟩ := h.full hi
  obtain ⟨cs, _, hs⟩ := hat i hi
  obtain ⟨na, np, bk, bn, a2, l2, p2, a3, l3, p3, a4, l4, p4, xa, xp, rfl, ht, hv, hk⟩ := hs.form
  refine ⟨?_, fun j hj => ?_⟩
  · obtain ⟨_, _, _, h1, _⟩ := ht
    exact h1.1
  · obtain ⟨_, _, _, hc⟩ := hk.wide hj
    obtain ⟨u, _, hT⟩ := hc.2 j hj
    obtain ⟨_, _, _, h1, _⟩ := hT
    exact h1.1


theorem SR.at {w : World} {base : Nat} {a : Option Addr} {n cap : Nat} {ks : List (List Int)} (h : SR w base (.slice a n cap) ks) {j : Nat} (hj : j < ks.length) : ∃ g, a = some ⟨g, 0, none⟩ ∧ g < w.heap.size ∧ w.cell? ⟨g, j, none⟩ = some (.string (strOf (ks.getD j []))) := by
  rcases h.2 with ⟨_, h0⟩ | ⟨g, cap', cur, e, h1, h2, h3, h4, h5, h6⟩
  · omega
  · simp only [Value.slice.injEq] at e
    obtain ⟨rfl, _, _⟩ := e
    refine ⟨g, rfl, (Array.getElem?_eq_some_iff.1 h2).1, ?_⟩
    rw [cell_of_row w g j _ _ _ h2]
    have e1 : cur.toList[j]? = (strC ks)[j]? := by rw [← h6, List.getElem?_take_of_lt (by omega)]
    rw [← Array.getElem?_toList, e1]
    simp [strC, hj, List.getD_eq_getElem?_getD]

end Go.Proofs.YtngjhimieacjhaaGreatDoor
/-
  One more text in a row of texts of the call's own, the text being made by a conversion.
-/
namespace Go.Proofs.YtngjhimieacjhaaGreatDoor
open Go.RowKit
set_option linter.unusedVariables false
set_option linter.unusedSimpArgs false

theorem rwk_stepT {w1 wr w5 w6 : World} {ks : List (List Int)} {x v5 : Value} {k g cp : Nat} {cs : List (List Value)} {Bi : List (List Nat)} {Bv : List Nat} {o : Obj} (h : RW 22 1 (ItK ks) wr w1.heap.size x k cs Bi) (hb : Below w1.heap.size w1 wr) (b5 : Below wr.heap.size wr w5) (hT : TOwn w5 v5 (ks.getD k []) Bv)
    (hBv : ∀ b ∈ Bv, wr.heap.size ≤ b ∧ b < w5.heap.size) (hBn : Bv.Nodup) (hown : w6.ownsRow w1.heap.size 22 1 (.slice (some ⟨g, 0, none⟩) (k + 1) cp) (k + 1) (cs.flatten ++ [v5])) (hg : (w5.alloc o).grownBy w6 x.ownBlock) (hat : x.ownBlock = some g ∨ g = w5.heap.size + 1) :
    ∃ cs' Bi', RW 22 1 (ItK ks) w6 w1.heap.size (.slice (some ⟨g, 0, none⟩) (k + 1) cp) (k + 1) cs' Bi' ∧ Below w1.heap.size w1 w6 := by
  have hz := hb.size
  have hz5 := b5.size
  have hxlt := h.2.2.1.lt
  refine ⟨_, _, RW.add (w2 := w5.alloc o) (ItK.agree ks) h (fun b hb => (Below.heap_alloc _ _ _ (by omega)).trans (b5.block b hb)) (by simp; omega) ⟨v5, rfl, hT.agree fun b hb => Below.heap_alloc _ _ _ (hBv b hb).2⟩ (fun b hb => by have := hBv b hb; simp; omega) hBn hz hown hg (by simpa using hat), ?_⟩
  exact ((Below.on hb b5).alloc (by omega) o).grown hg (by simp; omega) (fun j hj => (hxlt j hj).1)

end Go.Proofs.YtngjhimieacjhaaGreatDoor
/-
  addrs of the program: the wanted entries' addresses, in their order.
-/
namespace Go.Proofs.YtngjhimieacjhaaGreatDoor
open Go.RowKit
set_option linter.unusedVariables false
set_option linter.unusedSimpArgs false

theorem wld_on {d : Nat} {s : Stt d} {lo wB mB : Nat} {ps : List Value} {w wx : World} (hW : Wld d s lo wB mB ps w) (hb : Below w.heap.size w wx) : Wld d s lo wB mB ps wx := by
  obtain ⟨g1, g2, g3, g4, g5⟩ := hW
  have h1 := (Array.getElem?_eq_some_iff.1 g1).1
  have hz2 := hb.size
  exact ⟨(hb.block _ h1).trans g1, g2.kept (below_grows hb none) (by simp), fun i hi => (g3 i hi).carry (Nat.le_refl _) (fun q hq => ⟨hq.1, by omega⟩) (fun q hq => hb.block q hq.2), g4, g5⟩

/-- What is looked up at an entry's address. -/
theorem wld_look {d : Nat} {s : Stt d} {lo wB mB : Nat} {ps : List Value} {w : World} (hst : staB d s = true) (hby : ∀ i (h : i < s.2.2.2.2.length), ∀ x ∈ (s.2.2.2.2[i]).1, Byt x) (hW : ∀ wx, Below w.heap.size w wx → Wld d s lo wB mB ps wx) :
    ∀ k (hk : k < s.2.2.2.2.length) wx, Below w.heap.size w wx → ∃ m a n c t u, ps.getD k .nilIface = .agg #[.map m, .slice a n c, .bool t, .int .i64 u] ∧ (Instr.lookup 71 (.map (some mB)) (.string (strOf (s.2.2.2.2[k]).1)) false).run Tryz.prog wx = .ok (ps.getD k .nilIface) wx := fun k hk wx hb => by
  have hWz := hW wx hb
  have hup := staB_up hst
  obtain ⟨m, a, n, c, e, hP, hS, hR⟩ := hWz.2.2.1 k hk
  have hadr := adrL_at s.2.2.2.2 hk
  have hbyt : ∀ i, i < (adrL s.2.2.2.2).length → ∀ x ∈ (adrL s.2.2.2.2).getD i [], Byt x := fun i hi => by
    rw [adrL_len] at hi
    rw [adrL_at _ hi]
    exact hby i hi
  have hf : findK (adrL s.2.2.2.2) (s.2.2.2.2[k]).1 = k := findK_at (by rw [adrL_len]; exact hk) (fun i hi e => by
    have := up_inj hup (i := i) (j := k) (by rw [adrL_len]; omega) (by rw [adrL_len]; exact hk) (e.trans hadr.symm)
    omega) hadr
  have hsh := staB_short hst hk
  have := look_heldF (wx := wx) (ks := adrL s.2.2.2.2) (ps := ps) (key := (s.2.2.2.2[k]).1) (k := k) (by rw [adrL_len]; exact hWz.2.1) hup hbyt (hby k hk) (by unfold maxLen; omega) (by rw [adrL_len]; exact hk) hf
  exact ⟨m, a, n, c, _, _, e, this⟩

set_option maxHeartbeats 3200000 in
set_option maxRecDepth 100000 in
theorem addrsT_any (d : Nat) (s : Stt d) (lo wB mB : Nat) (ps : List Value) (p : Ntr d → Bool) (w : World) (hW : Wld d s lo wB mB ps w) (hst : staB d s = true) (hby : ∀ i (h : i < s.2.2.2.2.length), ∀ x ∈ (s.2.2.2.2[i]).1, Byt x)
    (HC : ∀ i (h : i < s.2.2.2.2.length) wx, Below w.heap.size w wx → Calls Tryz.prog 33 #[ps.getD i .nilIface] wx fun e w' => e = .returned (.bool (p s.2.2.2.2[i])) ∧ Below wx.heap.size wx w') :
    Calls Tryz.prog 27 #[.pointer (some ⟨wB, 0, none⟩), .func (.func 33) #[] #[]] w (KEnd (fltA s.2.2.2.2 p) w) := by
  obtain ⟨iT, hiT, hy0, hy1, hy2⟩ := info_parts infoT
  have HSo := hide' (sorted_any hW hst)
  have HWx : Hid (∀ wx, Below w.heap.size w wx → Wld d s lo wB mB ps wx) := fun wx hb => wld_on hW hb
  have hlook := wld_look hst hby (w := w) (fun wx hb => wld_on hW hb)
  have HLk := hide' hlook
  have HC0 := hide' HC
  have hl16 := staB_len hst
  have HSh : Hid (∀ k (hk : k < s.2.2.2.2.length), (s.2.2.2.2[k]).1.length ≤ 60 ∧ ∀ x ∈ (s.2.2.2.2[k]).1, Byt x) := fun k hk => ⟨staB_short hst hk, hby k hk⟩
  have HCe : Hid (∀ wx, Below w.heap.size w wx → wx.cell? ⟨wB, 4, none⟩ = some (.map (some mB))) := fun wx hb => by
    obtain ⟨g1, _⟩ := wld_on hW hb
    rw [cell_of_row wx wB 4 _ _ _ g1]; rfl
  obtain ⟨s0, s1, nm, s3, l⟩ := s
  simp only at HSo HLk HC0 hl16 HSh ⊢
  have HFy : Hid (∀ k (hk : k < l.length), p l[k] = true → cntF l p (k + 1) = cntF l p k + 1 ∧ (fltA l p).getD (cntF l p k) [] = (l[k]).1 ∧ cntF l p k < (fltA l p).length) := fun k hk h => ⟨cntF_yes hk h, fltA_at hk h, cntF_lt hk h⟩
  have HFn : Hid (∀ k (hk : k < l.length), p l[k] = false → cntF l p (k + 1) = cntF l p k) := fun k hk h => cntF_no hk h
  have HFe : Hid (cntF l p l.length = (fltA l p).length) := cntF_end
  have hfl : (fltA l p).length ≤ 16 := Nat.le_trans fltA_len hl16
  have hc0 : cntF l p 0 = 0 := cntF_zero
  have HEnd : Hid (∀ u e B w', e = .returned u → KOwn w' u (fltA l p) B → (∀ b ∈ B, w.heap.size ≤ b ∧ b < w'.heap.size) → Below w.heap.size w w' → KEnd (fltA l p) w e w') := fun u e B w' h1 h2 h3 h4 => ⟨u, h1, B, h2, h3, h4⟩
  generalize fltA l p = A at *
  generalize cntF l p = nf at *
  show Calls _ _ _ _ fun e w' => KEnd A w e w'
  clear hW hst hby HC hlook
  go_enter Tryz.func27, Tryz.ntmps27
  go_wp2_with fail
  refine HSo.out.mono ?_
  rintro e w1 ⟨y, rfl, hSR, b1⟩
  obtain ⟨ya, yc, ey⟩ := hSR.shape
  rw [adrL_len] at ey
  have hSR' := hSR
  rw [ey] at hSR'
  have HSr : Hid (∀ wx, Below w1.heap.size w1 wx → ∀ j (hj : j < l.length), ∃ g, ya = some ⟨g, 0, none⟩ ∧ wx.cell? ⟨g, j, none⟩ = some (.string (strOf (l[j]).1))) := fun wx hb j hj => by
    obtain ⟨g, e1, e2, e3⟩ := hSR'.at (j := j) (by rw [adrL_len]; exact hj)
    rw [adrL_at l hj] at e3
    exact ⟨g, e1, (World.cell?_of_block (hb.block g e2)).trans e3⟩
  subst ey
  have HB1 := hide' b1
  have hz1 := b1.size
  clear hSR hSR' b1 HSo
  go_wp2_with fail
  go_loopw [5, 11] (fun x i wr => ∃ j : Nat, j ≤ l.length ∧ i = .int .i64 j ∧ ∃ cs Bi, RW 22 1 (ItK A) wr w1.heap.size x (nf j) cs Bi ∧ Below w1.heap.size w1 wr) (fun _ i _ => l.length - (intOf i).toNat)
  case atStart => exact ⟨0, Nat.zero_le _, rfl, _, _, by rw [hc0]; exact RW.nil _ _ _ _ _, Below.refl _ _⟩
  case round =>
    obtain ⟨j, hj, rfl, cs, Bi, hR, hbel⟩ := hrel
    have hsz := hbel.size
    by_cases hjn : j < l.length
    · have hjn' : (j : Int) < (l.length : Int) := by omega
      obtain ⟨g, rfl, hcell⟩ := HSr.out wr hbel j hjn
      have hbw : Below w.heap.size w wr := Below.on HB1.out hbel
      have hce := HCe.out wr hbw
      obtain ⟨m0, a0, n0, c0, t0, u0, hps, hlk⟩ := HLk.out j hjn wr hbw
      have HCj := hide' (HC0.out j hjn wr hbw)
      rw [hps] at HCj hlk
      clear hps
      obtain ⟨hls, hbs⟩ := HSh.out j hjn
      cases hp : p l[j] with
      | false =>
        rw [hp] at HCj
        have hn := HFn.out j hjn hp
        have HN : Hid (∀ w2, Below wr.heap.size wr w2 → RW 22 1 (ItK A) w2 w1.heap.size u5 (nf (j + 1)) cs Bi ∧ Below w1.heap.size w1 w2) := fun w2 h => by
          rw [hn]
          exact ⟨hR.agree (ItK.agree A) (fun b hb => h.block b (hR.2.2.2.2.2 b hb).2) h.size, Below.on hbel h⟩
        generalize strOf (l[j]).1 = sx at *
        clear hR hbel hn hp hls hbs hbw
        go_wp2_with fail
        refine HCj.out.mono ?_
        rintro e w2 ⟨rfl, b2⟩
        have HN' := hide' (HN.out w2 b2)
        clear b2 HN HCj hcell hce hlk
        go_wp2
        go_roundw
        case rel => exact ⟨j + 1, by omega, by go_num, _, _, HN'.out.1, HN'.out.2⟩
        case measure => simp [intOf]; omega
      | true =>
        rw [hp] at HCj
        obtain ⟨hn1, hn2, hn3⟩ := HFy.out j hjn hp
        have hvK : ∃ q c, u5 = .slice q (nf j) c := by
          rcases hR.2.2.1.2 with ⟨rfl, h0⟩ | ⟨g, cap, cur, rfl, _⟩
          · exact ⟨none, 0, by rw [h0]⟩
          · exact ⟨_, _, rfl⟩
        obtain ⟨pK, cK, rfl⟩ := hvK
        have HN : Hid (∀ w2, Below wr.heap.size wr w2 → RW 22 1 (ItK A) w2 w1.heap.size (.slice pK (nf j) cK) (nf j) cs Bi ∧ Below w1.heap.size w1 w2) := fun w2 h => ⟨hR.agree (ItK.agree A) (fun b hb => h.block b (hR.2.2.2.2.2 b hb).2) h.size, Below.on hbel h⟩
        have hnl : nf j ≤ 16 := by omega
        have HCv : Hid (∀ w2 : World, ∃ cap wB, (convert 9 22 (.string (strOf (l[j]).1))).run Tryz.prog w2 = .ok (.slice (some ⟨w2.heap.size, 0, none⟩) (l[j]).1.length cap) wB ∧ TOwn wB (.slice (some ⟨w2.heap.size, 0, none⟩) (l[j]).1.length cap) (l[j]).1 [w2.heap.size] ∧ Below w2.heap.size w2 wB ∧ wB.heap.size = w2.heap.size + 1) := fun w2 => conv_back (l[j]).1 hbs (by omega) w2
        have HE1 := hide' hn1
        have HE2 := hide' hn2
        generalize (l[j]).1 = xs at *
        generalize hnk : xs.length = nk at *
        generalize hsx : strOf xs = sx at *
        generalize hnj : nf j = nj at *
        clear hR hbel hn1 hn2 hn3 hp hbs hbw hsx hnj hnk
        go_wp2_with fail
        refine HCj.out.mono ?_
        rintro e w2 ⟨rfl, b2⟩
        obtain ⟨hR2, hbel2⟩ := HN.out w2 b2
        obtain ⟨ck', wC, hconv, hTo, hBb, hzB⟩ := HCv.out w2
        have hrowK : wC.ownsRow w1.heap.size 22 1 (.slice pK nj cK) nj cs.flatten := hR2.2.2.1.kept (row := none) ⟨hBb.os, hBb.tape, hBb.output, hBb.size, fun k hk _ => hBb.block k hk⟩ (by cases hv : (Value.slice pK nj cK).ownBlock <;> simp)
        have HR := hide' (And.intro hR2 hbel2)
        have hsz2 := hbel2.size
        have HTo := hide' hTo
        have HBb := hide' hBb
        have HzB := hide' hzB
        have HRK := hide' hrowK
        clear hR2 hbel2 hTo hBb hzB hrowK b2 HN HCv HCj hcell hce hlk
        go_wp2_with (at_builtin; refine wpList_append_lies _ rfl (.tmp 23) (.tmp 26) 27 (by rfl) w1.heap.size 22 iT (.slice none 0 0) 1 24 Tryz.underlying27 hiT hy0 hy1 hy2 rfl (by decide) (.slice pK nj cK) nj cs.flatten (by rfl) (HRK.out.alloc _) ⟨wC.heap.size, 0, none⟩ 1 1 [.slice (some ⟨w2.heap.size, 0, none⟩) nk ck'] (by rfl) (by rfl) (World.news_of_block (cs := #[.slice (some ⟨w2.heap.size, 0, none⟩) nk ck']) (t := 22) (fr := (0, 0)) (heap_alloc_new wC _)) (by simp [Value.oneCell']) (by omega) (by unfold maxLen; omega) (by omega) (by have := HzB.out; simp; omega) (wC.heap.size + 1) (by simp) ?_; intro g6 cp6 w6 hown6 hg6 hat6 hlt6; obtain ⟨cs', Bi', hR6, hB6⟩ := rwk_stepT HR.out.1 HR.out.2 HBb.out (by rw [HE2.out]; exact HTo.out) (by have := HzB.out; intro b hb; simp at hb; omega) (by simp) hown6 hg6 hat6; replace hR6 := hide' hR6; replace hB6 := hide' hB6; clear hown6 hg6 hat6 hlt6)
        go_wp2
        go_roundw
        case rel => exact ⟨j + 1, by omega, by go_num, _, _, by rw [HE1.out]; exact hR6.out, hB6.out⟩
        case measure => simp [intOf]; omega
    · have hjn' : j = l.length := by omega
      subst hjn'
      have hkl' : ¬ (l.length : Int) < (l.length : Int) := by omega
      rw [HFe.out] at hR
      have HR := hide' (And.intro hR hbel)
      clear hR hbel
      go_wp2_with fail
      go_ret
      have hbd := HR.out.1.2.2.2.2.2
      exact HEnd.out _ _ _ _ rfl HR.out.1.kown (fun b hb => by have := hbd b hb; omega) (Below.on HB1.out HR.out.2)

end Go.Proofs.YtngjhimieacjhaaGreatDoor
