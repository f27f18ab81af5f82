/-
  Texts that a law leans on, one behind the other; no statement is proved here.
-/
import Derived.Test.YtmdmiiikbdnioaaPk4
import Derived.Deep.RegionWith
import Derived.Deep.AppendLies
/-
  toValueS and toValue of the laws: they make a value of their own that holds what their argument holds, at every depth.
-/
namespace Go.Proofs.Ytmdmiiikbdnioaa
open Go.RowKit
set_option linter.unusedVariables false

theorem infoV : (Try.prog.info? 26).map (fun i => (i.zero, i.size, i.bytes)) = some (some (.agg #[.int .i64 0, .int .i64 0, .slice none 0 0, .slice none 0 0, .slice none 0 0]), 5, 88) := by kernel_rfl

/-- After k rounds of toValueS. -/
def LPart (w : World) (g n d : Nat) (l : List (Vl d)) (k : Nat) (N : Nat) : Prop :=
  ∃ (cur : Array Value) (Bi : List (List Nat)), w.heap[g]? = some (.cells cur 26 (0, 0)) ∧ cur.size = n * 5 ∧ Bi.length = k ∧
    (∀ i (h : i < l.length), i < k → ∃ e, Cells5 cur (i * 5) e ∧ VOwn w d e l[i] (Bi.getD i [])) ∧ (∀ b ∈ Bi.flatten, N ≤ b ∧ b < w.heap.size) ∧ Bi.flatten.Nodup

theorem sz_elem {d : Nat} {l : List (Vl d)} {i : Nat} (hi : i < l.length) : szV d l[i] ≤ szL d l := by
  have h1 := pre_succ (szV d) l i hi
  have h2 := pre_le (szV d) l (i + 1)
  unfold szL
  omega

/-- Five cells stored one behind the other. -/
def set5 (w : World) (g j : Nat) (c0 c1 c2 c3 c4 : Value) : World :=
  ((((w.setCell ⟨g, j, none⟩ c0).setCell ⟨g, j + 1, none⟩ c1).setCell ⟨g, j + 2, none⟩ c2).setCell ⟨g, j + 3, none⟩ c3).setCell ⟨g, j + 4, none⟩ c4

/-- The array behind it. -/
def arrSet5 (cur : Array Value) (j : Nat) (c0 c1 c2 c3 c4 : Value) : Array Value :=
  ((((cur.setIfInBounds j c0).setIfInBounds (j + 1) c1).setIfInBounds (j + 2) c2).setIfInBounds (j + 3) c3).setIfInBounds (j + 4) c4

theorem set5_heap {w : World} {g j : Nat} {cur : Array Value} {T : TypeId} (c0 c1 c2 c3 c4 : Value) (h : w.heap[g]? = some (.cells cur T (0, 0))) :
    (set5 w g j c0 c1 c2 c3 c4).heap[g]? = some (.cells (arrSet5 cur j c0 c1 c2 c3 c4) T (0, 0)) :=
  heap_setCell_same _ g (j + 4) _ T c4 (heap_setCell_same _ g (j + 3) _ T c3 (heap_setCell_same _ g (j + 2) _ T c2 (heap_setCell_same _ g (j + 1) _ T c1 (heap_setCell_same w g j cur T c0 h))))

theorem set5_other (w : World) (g j : Nat) (c0 c1 c2 c3 c4 : Value) (b : Nat) (hb : b ≠ g) : (set5 w g j c0 c1 c2 c3 c4).heap[b]? = w.heap[b]? := by
  unfold set5
  rw [Below.heap_setCell _ _ _ b hb, Below.heap_setCell _ _ _ b hb, Below.heap_setCell _ _ _ b hb, Below.heap_setCell _ _ _ b hb, Below.heap_setCell _ _ _ b hb]

theorem set5_size (w : World) (g j : Nat) (c0 c1 c2 c3 c4 : Value) : (set5 w g j c0 c1 c2 c3 c4).heap.size = w.heap.size := by simp [set5, World.setCell]

theorem set5_grown (w : World) (g j : Nat) (c0 c1 c2 c3 c4 : Value) : w.grownBy (set5 w g j c0 c1 c2 c3 c4) (some g) :=
  grownBy_trans (grownBy_trans (grownBy_trans (grownBy_trans (grown1 _ _ _ _) (grown1 _ _ _ _)) (grown1 _ _ _ _)) (grown1 _ _ _ _)) (grown1 _ _ _ _)

theorem arrSet5_size (cur : Array Value) (j : Nat) (c0 c1 c2 c3 c4 : Value) : (arrSet5 cur j c0 c1 c2 c3 c4).size = cur.size := by simp [arrSet5]

theorem arrSet5_at (cur : Array Value) (j : Nat) (c0 c1 c2 c3 c4 : Value) (h : j + 4 < cur.size) : Cells5 (arrSet5 cur j c0 c1 c2 c3 c4) j (c0, c1, c2, c3, c4) := by
  unfold arrSet5 Cells5
  refine ⟨?_, ?_, ?_, ?_, ?_⟩ <;> simp [Array.getElem?_setIfInBounds] <;> omega

theorem arrSet5_ne (cur : Array Value) (j i : Nat) (c0 c1 c2 c3 c4 : Value) (h : i < j ∨ j + 4 < i) : (arrSet5 cur j c0 c1 c2 c3 c4)[i]? = cur[i]? := by
  unfold arrSet5
  rw [Array.getElem?_setIfInBounds_ne (by omega), Array.getElem?_setIfInBounds_ne (by omega), Array.getElem?_setIfInBounds_ne (by omega), Array.getElem?_setIfInBounds_ne (by omega), Array.getElem?_setIfInBounds_ne (by omega)]

theorem lPart_next {w w1 : World} {g n d : Nat} {l : List (Vl d)} {k N : Nat} (h : LPart w g n d l k N) (hgN : g < N) (hk : k < l.length) (hkn : k < n) (b1 : Below w.heap.size w w1) (hN : N ≤ w.heap.size) (c0 c1 c2 c3 c4 : Value) (B : List Nat) (hu : VOwn w1 d (c0, c1, c2, c3, c4) l[k] B) (hB : ∀ b ∈ B, w.heap.size ≤ b ∧ b < w1.heap.size) (hBn : B.Nodup) :
    LPart (set5 w1 g (k * 5) c0 c1 c2 c3 c4) g n d l (k + 1) N := by
  obtain ⟨cur, Bi, h1, h2, h3, h4, h5, h6⟩ := h
  have hgw : g < w.heap.size := (Array.getElem?_eq_some_iff.1 h1).1
  have h1' : w1.heap[g]? = some (.cells cur 26 (0, 0)) := (b1.block g hgw).trans h1
  refine ⟨arrSet5 cur (k * 5) c0 c1 c2 c3 c4, Bi ++ [B], set5_heap c0 c1 c2 c3 c4 h1', by rw [arrSet5_size]; exact h2, by simp [h3], fun i hi hik => ?_, ?_, ?_⟩
  · by_cases he : i = k
    · subst he
      have e : (Bi ++ [B]).getD i [] = B := by simp [List.getD_eq_getElem?_getD, ← h3]
      rw [e]
      exact ⟨_, arrSet5_at cur (i * 5) c0 c1 c2 c3 c4 (by omega), VOwn.agree d hu fun b hb => set5_other w1 g _ _ _ _ _ _ b (by have := hB b hb; omega)⟩
    · have hi' : i < k := by omega
      obtain ⟨e5, hc5, hv⟩ := h4 i hi hi'
      have e : (Bi ++ [B]).getD i [] = Bi.getD i [] := by
        simp only [List.getD_eq_getElem?_getD]
        rw [List.getElem?_append_left (by omega)]
      rw [e]
      refine ⟨e5, ?_, VOwn.agree d (VOwn.agree d hv fun b hb => b1.block b (VOwn.lt d hv b hb)) fun b hb => set5_other w1 g _ _ _ _ _ _ b ?_⟩
      · obtain ⟨q0, q1, q2, q3, q4⟩ := hc5
        refine ⟨?_, ?_, ?_, ?_, ?_⟩ <;> rw [arrSet5_ne _ _ _ _ _ _ _ _ (by omega)] <;> assumption
      · have := h5 b (flatten_mem_getD (by omega) hb)
        omega
  · intro b hb
    rw [List.flatten_append, List.mem_append] at hb
    rw [set5_size]
    rcases hb with hb | hb
    · have := h5 b hb
      have := b1.size
      omega
    · have hb' : b ∈ B := by simpa using hb
      have := hB b hb'
      omega
  · rw [List.flatten_append, List.nodup_append]
    refine ⟨h6, by simpa using hBn, fun b hb c hc => ?_⟩
    have hc' : c ∈ B := by simpa using hc
    have := h5 b hb
    have := hB c hc'
    omega

theorem VOwn.nodup {w : World} (d : Nat) {c : Value × Value × Value × Value × Value} {v : Vl d} {B : List Nat} (h : VOwn w d c v B) : B.Nodup := by
  cases d with
  | zero => exact h.elim
  | succ d =>
    obtain ⟨_, _, _, _, _, _, _, _, _, hn⟩ := h
    exact hn

/-- Of what shape the cells of a value are. -/
theorem VOwn.form {w : World} (d : Nat) {c0 c1 c2 c3 c4 : Value} {v : Vl d} {B : List Nat} (h : VOwn w d (c0, c1, c2, c3, c4) v B) :
    ∃ (k n : Int) (a2 : Option Addr) (l2 p2 : Nat) (a3 : Option Addr) (l3 p3 : Nat) (a4 : Option Addr) (l4 p4 : Nat), c0 = .int .i64 k ∧ c1 = .int .i64 n ∧ c2 = .slice a2 l2 p2 ∧ c3 = .slice a3 l3 p3 ∧ c4 = .slice a4 l4 p4 := by
  cases d with
  | zero => exact h.elim
  | succ d =>
    obtain ⟨e0, e1, Bs, Bk, Bl, ht, hk, hl, _, _⟩ := h
    obtain ⟨a2, p2, e2, _⟩ := ht.1.shape
    have e3 : ∃ (a3 : Option Addr) (l3 p3 : Nat), c3 = .slice a3 l3 p3 := by
      rcases hk with ⟨h1, _⟩ | ⟨g, cap, cur, Bs, h1, _⟩
      · exact ⟨_, _, _, h1⟩
      · exact ⟨_, _, _, h1⟩
    have e4 : ∃ (a4 : Option Addr) (l4 p4 : Nat), c4 = .slice a4 l4 p4 := by
      rcases hl with ⟨h1, _⟩ | ⟨g, cap, cur, Bs, h1, _⟩
      · exact ⟨_, _, _, h1⟩
      · exact ⟨_, _, _, h1⟩
    obtain ⟨a3, l3, p3, e3⟩ := e3
    obtain ⟨a4, l4, p4, e4⟩ := e4
    exact ⟨_, _, _, _, _, _, _, _, _, _, _, e0, e1, e2, e3, e4⟩

/-- The cells of a block of five that is known. -/
theorem row5 {w : World} {g : Nat} {T : TypeId} {c0 c1 c2 c3 c4 : Value} (h : w.heap[g]? = some (.cells #[c0, c1, c2, c3, c4] T (0, 0))) :
    w.cell? ⟨g, 0, none⟩ = some c0 ∧ w.cell? ⟨g, 1, none⟩ = some c1 ∧ w.cell? ⟨g, 2, none⟩ = some c2 ∧ w.cell? ⟨g, 3, none⟩ = some c3 ∧ w.cell? ⟨g, 4, none⟩ = some c4 ∧ ∀ j, w.frozen? ⟨g, j, none⟩ = false := by
  refine ⟨?_, ?_, ?_, ?_, ?_, fun j => frozen_of_row w g j _ T h⟩ <;> rw [cell_of_row w g _ _ T (0, 0) h] <;> rfl

end Go.Proofs.Ytmdmiiikbdnioaa
/-
  markByteSS of the laws: a list of texts of the call's own, marked.
-/
namespace Go.Proofs.Ytmdmiiikbdnioaa
open Go.RowKit
set_option linter.unusedVariables false
set_option linter.unusedSimpArgs false

set_option maxHeartbeats 3200000 in
theorem markByteSS_any (v : Value) (ks : List (List Int)) (B : List Nat) (m : Nat) (w : World) (h : KOwn w v ks B) (hs : szK ks ≤ 2097152) (hm : m + (ks.map List.length).sum ≤ 1125899906842624) :
    Calls Try.prog 22 #[v, .int .i64 m] w fun e w' => e = .returned (.int .i64 ((m + (ks.map List.length).sum : Nat) : Int)) ∧ KOwn w' v (mkKs ks m) B ∧ Turned B w w' := by
  have hsz : szK ks = ks.length + (ks.map List.length).sum := rfl
  have hform : ∃ a c, v = .slice a ks.length c := by
    rcases h with ⟨rfl, rfl, _⟩ | ⟨g, cap, cur, Bs, rfl, _⟩
    · exact ⟨none, 0, rfl⟩
    · exact ⟨_, _, rfl⟩
  obtain ⟨a, c, rfl⟩ := hform
  have HP : Hid (∀ k (hk : k < ks.length), pre List.length ks (k + 1) = pre List.length ks k + ks[k].length) := fun k hk => pre_succ List.length ks k hk
  have HL : Hid (∀ k, pre List.length ks k ≤ (ks.map List.length).sum) := pre_le List.length ks
  have HA : Hid (pre List.length ks ks.length = (ks.map List.length).sum) := pre_all _ _
  have H0 := hide' h
  have hn : ks.length ≤ 2097152 := by omega
  have hsum : (ks.map List.length).sum ≤ 2097152 := by omega
  have hmm : m + (ks.map List.length).sum ≤ 1125899906842624 := by omega
  clear h hs hsz hm
  go_enter Try.func22, Try.ntmps22
  go_wp2
  go_loopw [1, 5] (fun m' i wr => ∃ k : Nat, k ≤ ks.length ∧ i = .int .i64 k ∧ m' = .int .i64 ((m + pre List.length ks k : Nat) : Int) ∧ Hid (KOwn wr (.slice a ks.length c) (mixK ks m k) B) ∧ Hid (Turned B w wr)) (fun _ i _ => ks.length - (intOf i).toNat)
  case atStart => exact ⟨0, Nat.zero_le _, rfl, by rw [pre_zero]; simp, by rw [mixK_zero]; exact H0, Turned.refl _ _⟩
  case round =>
    obtain ⟨k, hk, rfl, rfl, hK, hT⟩ := hrel
    have hpk := HL.out k
    by_cases hlt : k < ks.length
    · have hlt' : (k : Int) < (ks.length : Int) := by omega
      have hps := HP.out k hlt
      have hpk1 := HL.out (k + 1)
      have hml := length_mixK ks m k hk
      rcases hK.out with ⟨_, h0, _⟩ | ⟨g, cap, cur, Bs, hv, hh, h3, h4, h5, h6, h7, hB, hN⟩
      · rw [h0] at hml
        simp at hml
        omega
      · obtain ⟨u, hu, htu⟩ := h7 k (by omega)
        have e1 : (mixK ks m k).getD k [] = ks.getD k [] := mixK_at ks m k hlt
        have e2 : ks.getD k [] = ks[k] := by simp [List.getD_eq_getElem?_getD, hlt]
        rw [e1, e2] at htu
        obtain ⟨ua, uc, rfl, _⟩ := htu.1.shape
        have hva : a = some ⟨g, 0, none⟩ := by simp at hv; exact hv.1
        subst hva
        have hcell : wr.cell? ⟨g, k, none⟩ = some (.slice ua ks[k].length uc) := by rw [cell_of_row wr g k cur _ (0, 0) hh]; exact hu
        have HM : Hid (Calls Try.prog 9 #[.slice ua ks[k].length uc, .int .i64 ((m + pre List.length ks k : Nat) : Int)] wr fun e w' => e = .returned (.int .i64 ((m + pre List.length ks k + ks[k].length : Nat) : Int)) ∧ Hid (KOwn w' (.slice (some ⟨g, 0, none⟩) ks.length c) (mixK ks m (k + 1)) B) ∧ Hid (Turned B w w')) := by
          refine (markByteS_F ua uc ks[k] (m + pre List.length ks k) wr htu.1 (by omega) (by omega)).mono ?_
          rintro e w' ⟨rfl, hb, hg⟩
          have ht2 := htu.turned hg
          refine ⟨rfl, ?_, ?_⟩
          · show KOwn w' _ (mixK ks m (k + 1)) B
            rw [mixK_succ ks m k hlt, e2]
            exact KOwn.turn hv hh h3 h4 h5 h6 h7 hB hN (by omega) hu (htu.marked hb) ht2
          · refine hT.out.trans (ht2.mono fun b hb => ?_)
            rw [hB]
            exact List.mem_cons_of_mem _ (flatten_mem_getD (by omega) hb)
        generalize ks[k].length = nk at *
        have Hps := hide' hps
        clear hK hT hh h7 hN htu hu hB hv h6 h5 e1 e2 hps
        generalize pre List.length ks k = q at *
        go_wp2_with fail
        refine HM.out.mono ?_
        rintro e w' ⟨rfl, hK', hT'⟩
        clear hcell HM
        go_wp2
        go_roundw
        case rel => exact ⟨k + 1, by omega, by go_num, by rw [Hps.out]; go_num, hK', hT'⟩
        case measure => simp [intOf]; omega
    · have hkn : k = ks.length := by omega
      have hkn' : ¬ (k : Int) < (ks.length : Int) := by omega
      have HE : Hid (KOwn wr (.slice a ks.length c) (mkKs ks m) B) := by
        show KOwn wr (.slice a ks.length c) (mkKs ks m) B
        have hK2 := hK.out
        rw [hkn, mixK_all] at hK2
        exact hK2
      have HQ : Hid (pre List.length ks k = (ks.map List.length).sum) := by show pre List.length ks k = _; rw [hkn]; exact HA.out
      clear hkn hK
      go_wp2
      go_ret
      exact ⟨ret_i64 (by rw [HQ.out]), HE.out, hT.out⟩
end Go.Proofs.Ytmdmiiikbdnioaa
/-
  A list marked item by item. Plain mathematics, and small laws.
-/
namespace Go.Proofs.Ytmdmiiikbdnioaa
open Go.RowKit
set_option linter.unusedVariables false
set_option linter.unusedSimpArgs false

/-- A list after it was marked. -/
def mkLs {α : Type} (f : α → Nat → α) (c : α → Nat) : List α → Nat → List α
  | [], _ => []
  | x :: r, k => f x k :: mkLs f c r (k + c x)

theorem length_mkLs {α : Type} (f : α → Nat → α) (c : α → Nat) : ∀ (l : List α) (k : Nat), (mkLs f c l k).length = l.length
  | [], _ => rfl
  | x :: r, k => by simp [mkLs, length_mkLs f c r]
theorem mkLs_append {α : Type} (f : α → Nat → α) (c : α → Nat) : ∀ (l r : List α) (k : Nat), mkLs f c (l ++ r) k = mkLs f c l k ++ mkLs f c r (k + (l.map c).sum)
  | [], r, k => by simp [mkLs]
  | x :: l, r, k => by simp [mkLs, mkLs_append f c l r, Nat.add_assoc]

/-- The first n are marked. -/
def mixL {α : Type} (f : α → Nat → α) (c : α → Nat) (l : List α) (k n : Nat) : List α := mkLs f c (l.take n) k ++ l.drop n
theorem mixL_zero {α : Type} (f : α → Nat → α) (c : α → Nat) (l : List α) (k : Nat) : mixL f c l k 0 = l := by simp [mixL, mkLs]
theorem mixL_all {α : Type} (f : α → Nat → α) (c : α → Nat) (l : List α) (k : Nat) : mixL f c l k l.length = mkLs f c l k := by simp [mixL]
theorem length_mixL {α : Type} (f : α → Nat → α) (c : α → Nat) (l : List α) (k n : Nat) (h : n ≤ l.length) : (mixL f c l k n).length = l.length := by simp [mixL, length_mkLs]; omega
theorem mixL_at {α : Type} (f : α → Nat → α) (c : α → Nat) (l : List α) (k n : Nat) (h : n < l.length) : (mixL f c l k n)[n]'(by rw [length_mixL f c l k n (Nat.le_of_lt h)]; exact h) = l[n] := by
  unfold mixL
  have hl : (mkLs f c (l.take n) k).length = n := by rw [length_mkLs]; simp; omega
  rw [List.getElem_append_right (by omega)]
  simp [hl]
theorem mixL_succ {α : Type} (f : α → Nat → α) (c : α → Nat) (l : List α) (k n : Nat) (h : n < l.length) : mixL f c l k (n + 1) = (mixL f c l k n).set n (f l[n] (k + pre c l n)) := by
  unfold mixL pre
  rw [List.take_succ_eq_append_getElem h, mkLs_append, List.drop_eq_getElem_cons h]
  have hl : (mkLs f c (l.take n) k).length = n := by rw [length_mkLs]; simp; omega
  rw [List.set_append_right _ _ (by omega), hl, Nat.sub_self, List.set_cons_zero]
  simp only [mkLs, List.append_assoc, List.singleton_append]

theorem agree_turned {B C : List Nat} {w w' : World} (h : Turned B w w') (hl : ∀ b ∈ C, b < w.heap.size) (hd : ∀ b ∈ C, b ∉ B) : Agree (fun b => b ∈ C) w w' := fun b hb => h.block b (hl b hb) (hd b hb)

theorem arg_eq {F : Nat} {v : Value} {x y : Int} {w : World} {Q : Ending → World → Prop} (e : x = y) (h : Calls Try.prog F #[v, .int .i64 x] w Q) : Calls Try.prog F #[v, .int .i64 y] w Q := e ▸ h
end Go.Proofs.Ytmdmiiikbdnioaa
/-
  toValue of the laws at every depth.
-/
namespace Go.Proofs.Ytmdmiiikbdnioaa
open Go.RowKit
set_option linter.unusedVariables false

theorem KOwn.nodup {w : World} {v : Value} {ks : List (List Int)} {B : List Nat} (h : KOwn w v ks B) : B.Nodup := by
  rcases h with ⟨_, _, rfl⟩ | ⟨_, _, _, _, _, _, _, _, _, _, _, _, hn⟩
  · simp
  · exact hn
theorem LOwn.nodup {w : World} {d : Nat} {x : Value} {l : List (Vl d)} {B : List Nat} (h : LOwn w d x l B) : B.Nodup := by
  rcases h with ⟨_, _, rfl⟩ | ⟨_, _, _, _, _, _, _, _, _, _, _, _, hn⟩
  · simp
  · exact hn

end Go.Proofs.Ytmdmiiikbdnioaa
/-
  eqByteSS, eqValueS, eqValue of the laws: of two readings of the same they answer true, and turn nothing old.
-/
namespace Go.Proofs.Ytmdmiiikbdnioaa
open Go.RowKit
set_option linter.unusedVariables false

set_option maxHeartbeats 1600000 in
theorem eqByteSS_same (N : Nat) (x y : Value) (ks : List (List Int)) (w : World) (hx : KSeg (fun b => b < N) w x ks) (hy : KSeg (fun b => b < N) w y ks) (hN : N ≤ w.heap.size) (hz : szK ks ≤ 1048576) :
    Calls Try.prog 20 #[x, y] w fun e w' => e = .returned (.bool true) ∧ Below w.heap.size w w' := by
  obtain ⟨a, cap, rfl, hlc, hcm, ka, hc⟩ := hx
  obtain ⟨a', cap', rfl, hlc', hcm', ka', hc'⟩ := hy
  have hn : ks.length ≤ 1048576 := by unfold szK at hz; omega
  have hel : ∀ k, k < ks.length → (ks.getD k []).length ≤ 1048576 := by
    intro k hk
    have h1 := pre_succ List.length ks k hk
    have h2 := pre_le List.length ks (k + 1)
    have h3 : ks.getD k [] = ks[k] := by simp [List.getD_eq_getElem?_getD, hk]
    rw [h3]
    unfold szK at hz
    omega
  have HE := hide' hel
  have HC : Hid (ks = [] ∨ ∃ b off, a = some ⟨b, off, none⟩ ∧ b < N ∧ ∀ i, i < ks.length → ∃ u, w.cell? ⟨b, off + i, none⟩ = some u ∧ TSeg (fun b => b < N) w u (ks.getD i [])) := hc
  have HC' : Hid (ks = [] ∨ ∃ b off, a' = some ⟨b, off, none⟩ ∧ b < N ∧ ∀ i, i < ks.length → ∃ u, w.cell? ⟨b, off + i, none⟩ = some u ∧ TSeg (fun b => b < N) w u (ks.getD i [])) := hc'
  clear hc hc' hel hz
  unfold maxLen at hcm hcm'
  go_enter Try.func20, Try.ntmps20
  go_wp2
  go_loopw [5] (fun i wr => ∃ k : Nat, k ≤ ks.length ∧ i = .int .i64 k ∧ Below w.heap.size w wr) (fun i _ => ks.length - (intOf i).toNat)
  case atStart => exact ⟨0, Nat.zero_le _, rfl, Below.refl _ _⟩
  case round =>
    obtain ⟨k, hk, rfl, hbel⟩ := hrel
    have hsz2 := hbel.size
    by_cases hlt : k < ks.length
    · have ag : Agree (fun b => b < N) w wr := agree_below (hbel.mono hN)
      have hcell : ∃ b off u, a = some ⟨b, off, none⟩ ∧ wr.cell? ⟨b, off + k, none⟩ = some u ∧ TSeg (fun b => b < N) wr u (ks.getD k []) := by
        rcases HC.out with e | ⟨b, off, e, hb, hc⟩
        · rw [e] at hlt; simp at hlt
        · obtain ⟨u, hu, ht⟩ := hc k hlt
          exact ⟨b, off, u, e, (cell_agree ag hb).trans hu, ht.agree ag⟩
      have hcell' : ∃ b off u, a' = some ⟨b, off, none⟩ ∧ wr.cell? ⟨b, off + k, none⟩ = some u ∧ TSeg (fun b => b < N) wr u (ks.getD k []) := by
        rcases HC'.out with e | ⟨b, off, e, hb, hc⟩
        · rw [e] at hlt; simp at hlt
        · obtain ⟨u, hu, ht⟩ := hc k hlt
          exact ⟨b, off, u, e, (cell_agree ag hb).trans hu, ht.agree ag⟩
      obtain ⟨b, off, u, rfl, hu, a2, p2, rfl, s2, _, _, _, _⟩ := hcell
      obtain ⟨b', off', u', rfl, hu', a3, p3, rfl, s3, _, _, _, _⟩ := hcell'
      have hlt' : (k : Int) < (ks.length : Int) := by omega
      have hlk := HE.out k hlt
      generalize ks.getD k [] = ys at *
      have hE := hide' (eqByteS_same a2 a3 p2 p3 ys wr.drew s2 s3 (by omega))
      clear s2 s3 ag
      go_wp2_with fail
      go_region_with (go_at_call 8; refine hE.out.mono ?_; rintro e w1 ⟨rfl, b1⟩)
      all_goals
        have B1 : Below w.heap.size w w1 := Below.on hbel.drew b1
        go_wp2
        go_roundw
        case rel => exact ⟨k + 1, by omega, by go_num, B1⟩
        case measure => simp [intOf]; omega
    · have hlt' : ¬ (k : Int) < (ks.length : Int) := by omega
      go_wp2
      go_ret
      exact ⟨rfl, hbel⟩
/-- The contract of eqValue at depth d, of two readings of one value. -/
def EqAt (d : Nat) : Prop := ∀ (N : Nat) (c c' : Value × Value × Value × Value × Value) (v : Vl d) (w : World), VSeg (fun b => b < N) w d c v → VSeg (fun b => b < N) w d c' v → N ≤ w.heap.size → szV d v ≤ 1048576 →
  Calls Try.prog 7 #[.agg #[c.1, c.2.1, c.2.2.1, c.2.2.2.1, c.2.2.2.2], .agg #[c'.1, c'.2.1, c'.2.2.1, c'.2.2.2.1, c'.2.2.2.2]] w fun e w' => e = .returned (.bool true) ∧ Below w.heap.size w w'

set_option maxHeartbeats 1600000 in
theorem eqValueS_of (d : Nat) (ih : EqAt d) (N : Nat) (x y : Value) (l : List (Vl d)) (w : World) (hx : LSeg (fun b => b < N) w d x l) (hy : LSeg (fun b => b < N) w d y l) (hN : N ≤ w.heap.size) (hz : szL d l ≤ 1048576) :
    Calls Try.prog 21 #[x, y] w fun e w' => e = .returned (.bool true) ∧ Below w.heap.size w w' := by
  obtain ⟨a, cap, rfl, hlc, hcm, ka, hc⟩ := hx
  obtain ⟨a', cap', rfl, hlc', hcm', ka', hc'⟩ := hy
  have hn : l.length ≤ 1048576 := by unfold szL at hz; omega
  have HI := hide' ih
  have HZ := hide' hz
  have HC : Hid (l = [] ∨ ∃ b off, a = some ⟨b, off, none⟩ ∧ b < N ∧ ∀ i (h : i < l.length), ∃ e, Five w b (off + i * 5) e ∧ VSeg (fun b => b < N) w d e (l[i])) := hc
  have HC' : Hid (l = [] ∨ ∃ b off, a' = some ⟨b, off, none⟩ ∧ b < N ∧ ∀ i (h : i < l.length), ∃ e, Five w b (off + i * 5) e ∧ VSeg (fun b => b < N) w d e (l[i])) := hc'
  clear hc hc' ih hz
  unfold maxLen at hcm hcm'
  go_enter Try.func21, Try.ntmps21
  go_wp2
  go_loopw [5] (fun i wr => ∃ k : Nat, k ≤ l.length ∧ i = .int .i64 k ∧ Below w.heap.size w wr) (fun i _ => l.length - (intOf i).toNat)
  case atStart => exact ⟨0, Nat.zero_le _, rfl, Below.refl _ _⟩
  case round =>
    obtain ⟨k, hk, rfl, hbel⟩ := hrel
    have hsz2 := hbel.size
    by_cases hlt : k < l.length
    · have ag : Agree (fun b => b < N) w wr := agree_below (hbel.mono hN)
      have hcell : ∃ b off e, a = some ⟨b, off, none⟩ ∧ Five wr b (off + k * 5) e ∧ VSeg (fun b => b < N) wr d e (l[k]) := by
        rcases HC.out with e | ⟨b, off, e, hb, hc⟩
        · rw [e] at hlt; simp at hlt
        · obtain ⟨c, h5, hv⟩ := hc k hlt
          exact ⟨b, off, c, e, h5.agree ag hb, VSeg.agree ag d hv⟩
      have hcell' : ∃ b off e, a' = some ⟨b, off, none⟩ ∧ Five wr b (off + k * 5) e ∧ VSeg (fun b => b < N) wr d e (l[k]) := by
        rcases HC'.out with e | ⟨b, off, e, hb, hc⟩
        · rw [e] at hlt; simp at hlt
        · obtain ⟨c, h5, hv⟩ := hc k hlt
          exact ⟨b, off, c, e, h5.agree ag hb, VSeg.agree ag d hv⟩
      obtain ⟨b, off, c, rfl, h5, hv⟩ := hcell
      obtain ⟨b', off', c', rfl, h5', hv'⟩ := hcell'
      obtain ⟨c0, c1, c2, c3, c4⟩ := c
      obtain ⟨e0, e1, e2, e3, e4⟩ := c'
      obtain ⟨q0, q1, q2, q3, q4⟩ := h5
      obtain ⟨r0, r1, r2, r3, r4⟩ := h5'
      simp only at q0 q1 q2 q3 q4 r0 r1 r2 r3 r4
      have hlt' : (k : Int) < (l.length : Int) := by omega
      have hzk : szV d l[k] ≤ 1048576 := Nat.le_trans (sz_elem hlt) HZ.out
      have hE := hide' (HI.out N (c0, c1, c2, c3, c4) (e0, e1, e2, e3, e4) l[k] wr.drew (VSeg.agree (w := wr) (w' := wr.drew) (fun b _ => rfl) d hv) (VSeg.agree (w := wr) (w' := wr.drew) (fun b _ => rfl) d hv') (by show N ≤ wr.heap.size; omega) hzk)
      clear hv hv' ag hzk
      go_wp2_with fail
      go_region_with (go_at_call 7; refine hE.out.mono ?_; rintro e w1 ⟨rfl, b1⟩)
      all_goals
        have B1 : Below w.heap.size w w1 := Below.on hbel.drew b1
        clear q0 q1 q2 q3 q4 r0 r1 r2 r3 r4
        go_wp2
        go_roundw
        case rel => exact ⟨k + 1, by omega, by go_num, B1⟩
        case measure => simp [intOf]; omega
    · have hlt' : ¬ (k : Int) < (l.length : Int) := by omega
      go_wp2
      go_ret
      exact ⟨rfl, hbel⟩

set_option maxHeartbeats 1600000 in
theorem eqValue_succ (d : Nat) (ih : EqAt d) : EqAt (d + 1) := by
  intro N c c' v w hv hv' hN hz
  obtain ⟨c0, c1, c2, c3, c4⟩ := c
  obtain ⟨g0, g1, g2, g3, g4⟩ := c'
  obtain ⟨vk, vn, vs, vK, vL⟩ := v
  obtain ⟨e0, e1, ht, hk, hl⟩ := (VSeg_succ _ _ _ _ _).1 hv
  obtain ⟨f0, f1, ht', hk', hl'⟩ := (VSeg_succ _ _ _ _ _).1 hv'
  simp only at e0 e1 ht hk hl f0 f1 ht' hk' hl'
  subst e0
  subst e1
  subst f0
  subst f1
  have hsz : szV (d + 1) (vk, vn, vs, vK, vL) = vs.length + szK vK + szL d vL := rfl
  rw [hsz] at hz
  clear hsz hv hv'
  simp only
  have hz1 : vs.length ≤ 1048576 := by omega
  have hz2 : szK vK ≤ 1048576 := by omega
  have hz3 : szL d vL ≤ 1048576 := by omega
  have Hk : Hid (∀ wx, Below w.heap.size w wx → KSeg (fun b => b < N) wx c3 vK ∧ KSeg (fun b => b < N) wx g3 vK) := fun wx hb => ⟨hk.agree (agree_below (hb.mono hN)), hk'.agree (agree_below (hb.mono hN))⟩
  have Hl : Hid (∀ wx, Below w.heap.size w wx → LSeg (fun b => b < N) wx d c4 vL ∧ LSeg (fun b => b < N) wx d g4 vL) := fun wx hb => ⟨hl.agree (agree_below (hb.mono hN)), hl'.agree (agree_below (hb.mono hN))⟩
  have HI := hide' ih
  have Hb : Hid (∀ o o' : Obj, Below w.heap.size w ((w.alloc o).alloc o')) := fun o o' => ((Below.refl _ _).alloc (Nat.le_refl _) o).alloc (by simp) o'
  obtain ⟨a3, cp3, rfl, _, _, _, _⟩ := hk
  obtain ⟨a4, cp4, rfl, _, _, _, _⟩ := hl
  obtain ⟨a3', cp3', rfl, _, _, _, _⟩ := hk'
  obtain ⟨a4', cp4', rfl, _, _, _, _⟩ := hl'
  have Ht : Hid (∀ wx, Below w.heap.size w wx → TSeg (fun b => b < N) wx c2 vs ∧ TSeg (fun b => b < N) wx g2 vs) := fun wx hb => ⟨ht.agree (agree_below (hb.mono hN)), ht'.agree (agree_below (hb.mono hN))⟩
  obtain ⟨a2, cp2, rfl, s2, hl2, hm2, _, _⟩ := ht
  obtain ⟨a2', cp2', rfl, s2', hl2', hm2', _, _⟩ := ht'
  have Hs : Hid (∀ wx, Below w.heap.size w wx → Seg wx a2 vs ∧ Seg wx a2' vs) := by
    intro wx hb
    obtain ⟨x1, x2⟩ := Ht.out wx hb
    obtain ⟨_, _, y1, y2, _⟩ := x1
    obtain ⟨_, _, z1, z2, _⟩ := x2
    simp at y1 z1
    exact ⟨y1.1 ▸ y2, z1.1 ▸ z2⟩
  clear ih Ht s2 s2'
  go_enter Try.func7, Try.ntmps7
  go_wp2_with fail
  have q1 := Hb.out (.cells #[.int .i64 vk, .int .i64 vn, .slice a2 vs.length cp2, .slice a3 vK.length cp3, .slice a4 vL.length cp4] 26) (.cells #[.int .i64 vk, .int .i64 vn, .slice a2' vs.length cp2', .slice a3' vK.length cp3', .slice a4' vL.length cp4'] 26)
  have r1 : ∀ o o' : Obj, ((w.alloc o).alloc o').heap[w.heap.size]? = some o ∧ ((w.alloc o).alloc o').heap[w.heap.size + 1]? = some o' := two_boxes w
  have R1 := r1 (.cells #[.int .i64 vk, .int .i64 vn, .slice a2 vs.length cp2, .slice a3 vK.length cp3, .slice a4 vL.length cp4] 26) (.cells #[.int .i64 vk, .int .i64 vn, .slice a2' vs.length cp2', .slice a3' vK.length cp3', .slice a4' vL.length cp4'] 26)
  refine (eqByteS_same _ _ _ _ vs _ (Hs.out _ q1).1 (Hs.out _ q1).2 (by omega)).mono ?_
  rintro e w1 ⟨rfl, b1⟩
  have B1 := Below.on q1 b1
  have R1a := (b1.block _ (by rw [size2]; omega)).trans R1.1
  have R1b := (b1.block _ (by rw [size2]; omega)).trans R1.2
  obtain ⟨_, _, _, x3, x4, _⟩ := row5 R1a
  obtain ⟨_, _, _, y3, y4, _⟩ := row5 R1b
  have hz1 : w.heap.size + 2 ≤ w1.heap.size := by have := b1.size; rw [size2] at this; omega
  have HK := hide' (eqByteSS_same N _ _ vK w1 (Hk.out _ B1).1 (Hk.out _ B1).2 (by omega) hz2)
  have HRa := hide' R1a
  have HRb := hide' R1b
  clear q1 r1 R1 b1 R1a R1b Hs
  go_wp2_with fail
  refine HK.out.mono ?_
  rintro e w2 ⟨rfl, b2⟩
  have B2 := Below.on B1 b2
  have hz2 := b2.size
  obtain ⟨_, _, _, _, x4, _⟩ := row5 ((b2.block _ (by omega)).trans HRa.out)
  obtain ⟨_, _, _, _, y4, _⟩ := row5 ((b2.block _ (by omega)).trans HRb.out)
  have HL := hide' (eqValueS_of d HI.out N _ _ vL w2 (Hl.out _ B2).1 (Hl.out _ B2).2 (by omega) hz3)
  clear b2 HRa HRb HK B1 Hk Hl
  go_wp2_with fail
  refine HL.out.mono ?_
  rintro e w3 ⟨rfl, b3⟩
  have B3 := Below.on B2 b3
  go_wp2
  go_ret
  exact ⟨rfl, B3⟩
theorem eqValue_any (d : Nat) : EqAt d := by
  induction d with
  | zero => intro N c c' v w hv; exact hv.elim
  | succ d ih => exact eqValue_succ d ih
end Go.Proofs.Ytmdmiiikbdnioaa
/-
  A row that is being appended to, each of its items in blocks of its own.
-/
namespace Go.Proofs.Ytmdmiiikbdnioaa
open Go.RowKit
set_option linter.unusedVariables false
set_option linter.unusedSimpArgs false

theorem flatten_at (s : Nat) : ∀ (cs : List (List Value)), (∀ c ∈ cs, c.length = s) → ∀ i, i < cs.length → ∀ j, j < s → cs.flatten[i * s + j]? = (cs.getD i [])[j]? := by
  intro cs
  induction cs with
  | nil => intro _ i hi; simp at hi
  | cons c cs ih =>
    intro hl i hi j hj
    have hc := hl c (by simp)
    rw [List.flatten_cons]
    cases i with
    | zero => rw [List.getElem?_append_left (by omega)]; simp
    | succ i =>
      have hge : s ≤ (i + 1) * s + j := by rw [Nat.add_mul, Nat.one_mul]; omega
      rw [List.getElem?_append_right (by omega), hc]
      have he : (i + 1) * s + j - s = i * s + j := by rw [Nat.add_mul, Nat.one_mul]; omega
      rw [he, ih (fun c' h => hl c' (by simp [h])) i (by simpa using hi) j hj]
      simp

/-- A row of n items that lies from block 'base' on; item i has the cells cs[i], and what it reaches lies in the blocks Bi[i]. -/
def RW (T : TypeId) (s : Nat) (It : World → Nat → List Value → List Nat → Prop) (w : World) (base : Nat) (x : Value) (n : Nat) (cs : List (List Value)) (Bi : List (List Nat)) : Prop :=
  cs.length = n ∧ Bi.length = n ∧ w.ownsRow base T s x n cs.flatten ∧ (∀ i, i < n → It w i (cs.getD i []) (Bi.getD i [])) ∧ (x.ownBlock.toList ++ Bi.flatten).Nodup ∧ ∀ b ∈ x.ownBlock.toList ++ Bi.flatten, base ≤ b ∧ b < w.heap.size

theorem RW.nil (T : TypeId) (s : Nat) (It : World → Nat → List Value → List Nat → Prop) (w : World) (base : Nat) : RW T s It w base (.slice none 0 0) 0 [] [] :=
  ⟨rfl, rfl, ⟨by simp, .inl ⟨rfl, rfl⟩⟩, fun i hi => by omega, by simp [Value.ownBlock], by simp [Value.ownBlock]⟩

theorem mem_flat {Bi : List (List Nat)} {i b : Nat} (h : b ∈ Bi.getD i []) : b ∈ Bi.flatten := by
  rw [List.getD_eq_getElem?_getD] at h
  cases hi : Bi[i]? with
  | none => rw [hi] at h; simp at h
  | some l => rw [hi] at h; exact List.mem_flatten.2 ⟨l, List.mem_of_getElem? hi, h⟩

/-- It stands where its blocks do. -/
theorem RW.agree {T : TypeId} {s : Nat} {It : World → Nat → List Value → List Nat → Prop} (hIt : ∀ w w' i c B, It w i c B → Agree (fun b => b ∈ B) w w' → It w' i c B) {w w' : World} {base : Nat} {x : Value} {n : Nat} {cs : List (List Value)} {Bi : List (List Nat)}
    (h : RW T s It w base x n cs Bi) (ha : Agree (fun b => b ∈ x.ownBlock.toList ++ Bi.flatten) w w') (hz : w.heap.size ≤ w'.heap.size) : RW T s It w' base x n cs Bi := by
  obtain ⟨h1, h2, h3, h4, h5, h6⟩ := h
  refine ⟨h1, h2, ⟨h3.1, ?_⟩, fun i hi => hIt _ _ _ _ _ (h4 i hi) fun b hb => ha b (by simp only [List.mem_append]; exact .inr (mem_flat hb)), h5, fun b hb => ⟨(h6 b hb).1, Nat.lt_of_lt_of_le (h6 b hb).2 hz⟩⟩
  rcases h3.2 with h0 | ⟨g, cap, cur, rfl, hb, hh, r⟩
  · exact .inl h0
  · exact .inr ⟨g, cap, cur, rfl, hb, (ha g (by simp [Value.ownBlock])).trans hh, r⟩

/-- One item more. -/
theorem RW.add {T : TypeId} {s : Nat} {It : World → Nat → List Value → List Nat → Prop} (hIt : ∀ w w' i c B, It w i c B → Agree (fun b => b ∈ B) w w' → It w' i c B) {w w2 w3 : World} {base : Nat} {x : Value} {n : Nat} {cs : List (List Value)} {Bi : List (List Nat)} {c : List Value} {Bv : List Nat} {g cap : Nat}
    (h : RW T s It w base x n cs Bi) (ha : ∀ b, b < w.heap.size → w2.heap[b]? = w.heap[b]?) (hz : w.heap.size ≤ w2.heap.size) (hc : It w2 n c Bv) (hBv : ∀ b ∈ Bv, w.heap.size ≤ b ∧ b < w2.heap.size) (hBn : Bv.Nodup) (hbase : base ≤ w.heap.size)
    (hown : w3.ownsRow base T s (.slice (some ⟨g, 0, none⟩) (n + 1) cap) (n + 1) (cs.flatten ++ c)) (hg : w2.grownBy w3 x.ownBlock) (hat : x.ownBlock = some g ∨ g = w2.heap.size) :
    RW T s It w3 base (.slice (some ⟨g, 0, none⟩) (n + 1) cap) (n + 1) (cs ++ [c]) (Bi ++ [Bv]) := by
  obtain ⟨h1, h2, h3, h4, h5, h6⟩ := h
  have hlt := hown.lt g rfl
  have hsz := hg.size
  have hfl : ∀ b ∈ Bi.flatten, base ≤ b ∧ b < w.heap.size := fun b hb => h6 b (by simp only [List.mem_append]; exact .inr hb)
  have hdis : ∀ b ∈ Bi.flatten, x.ownBlock ≠ some b := by
    intro b hb hx
    rw [hx] at h5
    simp only [Option.toList_some, List.nodup_append] at h5
    exact h5.2.2 b (by simp) b hb rfl
  have hxb : ∀ b, x.ownBlock = some b → b < w.heap.size := fun b hb => (h3.lt b hb).2
  refine ⟨by simp [h1], by simp [h2], by simpa using hown, fun i hi => ?_, ?_, ?_⟩
  · by_cases hin : i < n
    · have e1 : (cs ++ [c]).getD i [] = cs.getD i [] := by simp [List.getD_eq_getElem?_getD, List.getElem?_append_left (show i < cs.length by omega)]
      have e2 : (Bi ++ [Bv]).getD i [] = Bi.getD i [] := by simp [List.getD_eq_getElem?_getD, List.getElem?_append_left (show i < Bi.length by omega)]
      rw [e1, e2]
      refine hIt _ _ _ _ _ (h4 i hin) fun b hb => ?_
      have hm := mem_flat hb
      have hb' := hfl b hm
      exact (hg.block b (by omega) (fun e => hdis b hm e.symm)).trans (ha b hb'.2)
    · have hin' : i = n := by omega
      subst hin'
      have e1 : (cs ++ [c]).getD i [] = c := by rw [← h1]; simp [List.getD_eq_getElem?_getD]
      have e2 : (Bi ++ [Bv]).getD i [] = Bv := by rw [← h2]; simp [List.getD_eq_getElem?_getD]
      rw [e1, e2]
      refine hIt _ _ _ _ _ hc fun b hb => ?_
      have hb' := hBv b hb
      exact hg.block b hb'.2 (fun e => by have := hxb b e.symm; omega)
  · have hmid : (Bi.flatten ++ Bv).Nodup := by
      rw [List.nodup_append]
      refine ⟨(List.nodup_append.1 h5).2.1, hBn, fun a ha' b hb' => ?_⟩
      have := hfl a ha'
      have := hBv b hb'
      omega
    have hgn : g ∉ Bi.flatten ++ Bv := by
      intro hm
      rcases hat with hx | hx
      · rcases List.mem_append.1 hm with h' | h'
        · exact hdis g h' hx
        · have := hBv g h'
          have := hxb g hx
          omega
      · rcases List.mem_append.1 hm with h' | h'
        · have := hfl g h'; omega
        · have := hBv g h'; omega
    simp only [Value.ownBlock, Option.toList_some, List.flatten_append, List.flatten_singleton, List.singleton_append]
    exact List.nodup_cons.2 ⟨hgn, hmid⟩
  · intro b hb
    simp only [Value.ownBlock, Option.toList_some, List.flatten_append, List.flatten_singleton, List.singleton_append, List.mem_cons, List.mem_append] at hb
    rcases hb with rfl | hb | hb
    · exact hlt
    · have := hfl b hb; omega
    · have := hBv b hb; omega

/-- A value's five cells. -/
def enc5 (e : Value × Value × Value × Value × Value) : List Value := [e.1, e.2.1, e.2.2.1, e.2.2.2.1, e.2.2.2.2]

/-- Item i is the value l[i]. -/
def ItV (d : Nat) (l : List (Vl d)) (w : World) (i : Nat) (c : List Value) (B : List Nat) : Prop := ∃ e, c = enc5 e ∧ ∃ h : i < l.length, VOwn w d e l[i] B

/-- Item i is the text ks[i]. -/
def ItK (ks : List (List Int)) (w : World) (i : Nat) (c : List Value) (B : List Nat) : Prop := ∃ u, c = [u] ∧ TOwn w u (ks.getD i []) B

theorem ItV.agree (d : Nat) (l : List (Vl d)) : ∀ w w' i c B, ItV d l w i c B → Agree (fun b => b ∈ B) w w' → ItV d l w' i c B := by
  rintro w w' i c B ⟨e, rfl, h, hv⟩ ha
  exact ⟨e, rfl, h, VOwn.agree d hv ha⟩

theorem ItK.agree (ks : List (List Int)) : ∀ w w' i c B, ItK ks w i c B → Agree (fun b => b ∈ B) w w' → ItK ks w' i c B := by
  rintro w w' i c B ⟨u, rfl, hv⟩ ha
  exact ⟨u, rfl, hv.agree ha⟩

theorem getD_of_mem {α : Type} {cs : List α} {c z : α} (h : c ∈ cs) : ∃ i, i < cs.length ∧ cs.getD i z = c := by
  obtain ⟨i, hi, e⟩ := List.getElem_of_mem h
  exact ⟨i, hi, by simp [List.getD_eq_getElem?_getD, hi, e]⟩

/-- All of it: a list of values of the call's own. -/
theorem RW.lown {w : World} {base d : Nat} {x : Value} {l : List (Vl d)} {cs : List (List Value)} {Bi : List (List Nat)} (h : RW 26 5 (ItV d l) w base x l.length cs Bi) : LOwn w d x l (x.ownBlock.toList ++ Bi.flatten) := by
  obtain ⟨h1, h2, h3, h4, h5, h6⟩ := h
  have hl5 : ∀ c ∈ cs, c.length = 5 := by
    intro c hc
    obtain ⟨i, hi, e⟩ := getD_of_mem (z := []) hc
    obtain ⟨e', he, _⟩ := h4 i (by omega)
    rw [← e, he]
    rfl
  rcases h3.2 with ⟨rfl, h0⟩ | ⟨g, cap, cur, rfl, hb, hh, hn, hm, hs, ht⟩
  · have hl0 : l = [] := List.eq_nil_of_length_eq_zero h0
    have hb0 : Bi = [] := List.eq_nil_of_length_eq_zero (by omega)
    subst hl0 hb0
    exact .inl ⟨rfl, rfl, rfl⟩
  · refine .inr ⟨g, cap, cur, Bi, rfl, hh, hn, hm, hs, h2, fun i hi => ?_, rfl, h5⟩
    obtain ⟨e, he, _, hv⟩ := h4 i hi
    have hcell : ∀ j, j < 5 → cur[i * 5 + j]? = (enc5 e)[j]? := by
      intro j hj
      have hf := flatten_at 5 cs hl5 i (by omega) j hj
      rw [he, ← ht, List.getElem?_take_of_lt (by omega), Array.getElem?_toList] at hf
      exact hf
    exact ⟨e, ⟨hcell 0 (by omega), hcell 1 (by omega), hcell 2 (by omega), hcell 3 (by omega), hcell 4 (by omega)⟩, hv⟩

/-- All of it: a list of texts of the call's own. -/
theorem RW.kown {w : World} {base : Nat} {x : Value} {ks : List (List Int)} {cs : List (List Value)} {Bi : List (List Nat)} (h : RW 22 1 (ItK ks) w base x ks.length cs Bi) : KOwn w x ks (x.ownBlock.toList ++ Bi.flatten) := by
  obtain ⟨h1, h2, h3, h4, h5, h6⟩ := h
  have hl1 : ∀ c ∈ cs, c.length = 1 := by
    intro c hc
    obtain ⟨i, hi, e⟩ := getD_of_mem (z := []) hc
    obtain ⟨e', he, _⟩ := h4 i (by omega)
    rw [← e, he]
    rfl
  rcases h3.2 with ⟨rfl, h0⟩ | ⟨g, cap, cur, rfl, hb, hh, hn, hm, hs, ht⟩
  · have hl0 : ks = [] := List.eq_nil_of_length_eq_zero h0
    have hb0 : Bi = [] := List.eq_nil_of_length_eq_zero (by omega)
    subst hl0 hb0
    exact .inl ⟨rfl, rfl, rfl⟩
  · refine .inr ⟨g, cap, cur, Bi, rfl, hh, hn, hm, by omega, h2, fun i hi => ?_, rfl, h5⟩
    obtain ⟨u, he, hv⟩ := h4 i hi
    have hcell : cur[i]? = some u := by
      have hf := flatten_at 1 cs hl1 i (by omega) 0 (by omega)
      rw [he, ← ht, List.getElem?_take_of_lt (by omega), Array.getElem?_toList] at hf
      simpa using hf
    exact ⟨u, hcell, hv⟩
end Go.Proofs.Ytmdmiiikbdnioaa
/-
  What a call that makes a value leaves; a block of five cells, read behind new blocks.
-/
namespace Go.Proofs.Ytmdmiiikbdnioaa
open Go.RowKit
set_option linter.unusedVariables false
set_option linter.unusedSimpArgs false

/-- A block of five, read behind a new block. -/
theorem box_later {w : World} {g : Nat} {T : TypeId} {c0 c1 c2 c3 c4 : Value} (h : w.heap[g]? = some (.cells #[c0, c1, c2, c3, c4] T (0, 0))) :
    (∀ o, (w.alloc o).cell? ⟨g, 0, none⟩ = some c0) ∧ (∀ o, (w.alloc o).cell? ⟨g, 1, none⟩ = some c1) ∧ (∀ o, (w.alloc o).cell? ⟨g, 2, none⟩ = some c2) ∧ (∀ o, (w.alloc o).cell? ⟨g, 3, none⟩ = some c3) ∧ (∀ o, (w.alloc o).cell? ⟨g, 4, none⟩ = some c4) ∧ ∀ o j, (w.alloc o).frozen? ⟨g, j, none⟩ = false := by
  have hr : ∀ o, (w.alloc o).heap[g]? = some (.cells #[c0, c1, c2, c3, c4] T (0, 0)) := fun o => (Below.heap_alloc w o g (Array.getElem?_eq_some_iff.1 h).1).trans h
  exact ⟨fun o => (row5 (hr o)).1, fun o => (row5 (hr o)).2.1, fun o => (row5 (hr o)).2.2.1, fun o => (row5 (hr o)).2.2.2.1, fun o => (row5 (hr o)).2.2.2.2.1, fun o j => (row5 (hr o)).2.2.2.2.2 j⟩

/-- What valueOf leaves. -/
def ValEnd (d : Nat) (v : Vl d) (w : World) (e : Ending) (w' : World) : Prop :=
  ∃ u0 u1 u2 u3 u4, e = .returned (.agg #[u0, u1, u2, u3, u4]) ∧ ∃ B, VOwn w' d (u0, u1, u2, u3, u4) v B ∧ (∀ b ∈ B, w.heap.size ≤ b ∧ b < w'.heap.size) ∧ Below w.heap.size w w'

/-- .. and behind two. -/
theorem box_later2 {w : World} {g : Nat} {T : TypeId} {c0 c1 c2 c3 c4 : Value} (h : w.heap[g]? = some (.cells #[c0, c1, c2, c3, c4] T (0, 0))) :
    (∀ o o', ((w.alloc o).alloc o').cell? ⟨g, 0, none⟩ = some c0) ∧ (∀ o o', ((w.alloc o).alloc o').cell? ⟨g, 1, none⟩ = some c1) ∧ (∀ o o', ((w.alloc o).alloc o').cell? ⟨g, 2, none⟩ = some c2) ∧ (∀ o o', ((w.alloc o).alloc o').cell? ⟨g, 3, none⟩ = some c3) ∧ (∀ o o', ((w.alloc o).alloc o').cell? ⟨g, 4, none⟩ = some c4) ∧ ∀ o o' j, ((w.alloc o).alloc o').frozen? ⟨g, j, none⟩ = false := by
  have hr : ∀ o, (w.alloc o).heap[g]? = some (.cells #[c0, c1, c2, c3, c4] T (0, 0)) := fun o => (Below.heap_alloc w o g (Array.getElem?_eq_some_iff.1 h).1).trans h
  exact ⟨fun o => (box_later (hr o)).1, fun o => (box_later (hr o)).2.1, fun o => (box_later (hr o)).2.2.1, fun o => (box_later (hr o)).2.2.2.1, fun o => (box_later (hr o)).2.2.2.2.1, fun o => (box_later (hr o)).2.2.2.2.2⟩

end Go.Proofs.Ytmdmiiikbdnioaa
