/-
  Texts that a law leans on, one behind the other; no statement is proved here.
-/
import Derived.Test.YtbeekbkambkgoaaPk5
import Derived.Test.YtbeekbkambkgoaaPk7
import Derived.Maps.OwnSet
import Derived.Test.YtbeekbkambkgoaaPk9
import Derived.Test.YtbeekbkambkgoaaPk8
import Derived.Test.YtbeekbkambkgoaaPk10
import Derived.Test.YtbeekbkambkgoaaPk6
import Derived.Test.YtbeekbkambkgoaaPk0
import Derived.Deep.RegionLaw
import Derived.Deep.RegionWith
/-
  l2find of the specification: where a key stands.
-/
namespace Go.Proofs.Ytbeekbkambkgoaa
open Go.RowKit
set_option linter.unusedVariables false
set_option linter.unusedSimpArgs false

/-- Where a key stands; -1 where it does not. -/
def findK (ks : List (List Int)) (key : List Int) : Int := match ks.findIdx? (fun k => decide (k = key)) with | some i => i | none => -1

theorem findK_at {ks : List (List Int)} {key : List Int} {k : Nat} (hk : k < ks.length) (hn : ∀ i, i < k → ks.getD i [] ≠ key) (he : ks.getD k [] = key) : findK ks key = k := by
  have : ks.findIdx? (fun x => decide (x = key)) = some k := by
    rw [List.findIdx?_eq_some_iff_getElem]
    refine ⟨hk, ?_, fun j hj => ?_⟩
    · simp [List.getD_eq_getElem?_getD, hk] at he
      simp [he]
    · have h1 := hn j hj
      simp [List.getD_eq_getElem?_getD, (show j < ks.length by omega)] at h1
      simp [h1]
  simp [findK, this]

theorem findK_no {ks : List (List Int)} {key : List Int} (hn : ∀ i, i < ks.length → ks.getD i [] ≠ key) : findK ks key = -1 := by
  have : ks.findIdx? (fun x => decide (x = key)) = none := by
    rw [List.findIdx?_eq_none_iff]
    intro x hx
    obtain ⟨i, hi, rfl⟩ := List.getElem_of_mem hx
    have h1 := hn i hi
    simp [List.getD_eq_getElem?_getD, hi] at h1
    simp [h1]
  simp [findK, this]

set_option maxHeartbeats 3200000 in
theorem spec_l2find_any (N : Nat) (c0 c1 c2 c4 : Value) (a3 : Option Addr) (n3 p3 : Nat) (ks : List (List Int)) (ka : Option Addr) (kc : Nat) (key : List Int) (w : World) (hK : KSeg (fun b => b < N) w (.slice a3 n3 p3) ks) (hN : N ≤ w.heap.size) (hkl : ks.length ≤ 1048576) (hS : Seg w ka key) (hSb : ∀ x, ka = some x → key ≠ [] → x.block < w.heap.size) (hf : ∃ (k n : Int) (a2 : Option Addr) (l2 p2 : Nat) (a4 : Option Addr) (l4 p4 : Nat), c0 = .int .i64 k ∧ c1 = .int .i64 n ∧ c2 = .slice a2 l2 p2 ∧ c4 = .slice a4 l4 p4) :
    Calls Try.prog 27 #[.agg #[c0, c1, c2, .slice a3 n3 p3, c4], .slice ka key.length kc] w fun e w' => e = .returned (.int .i64 (findK ks key)) ∧ Below w.heap.size w w' := by
  obtain ⟨k0, n0, a2, l2, p2, a4, l4, p4, rfl, rfl, rfl, rfl⟩ := hf
  obtain rfl : n3 = ks.length := by obtain ⟨a, c, e, _⟩ := hK; simp at e; exact e.2.1
  have hB0 : ∀ o : Obj, Below w.heap.size w (w.alloc o) := fun o => (Below.refl _ _).alloc (Nat.le_refl _) o
  have HB0 := hide' hB0
  have HBx : Hid (∀ (o : Obj) (n : Nat), ((w.alloc o).drewN n).heap[w.heap.size]? = some o) := fun o n => (MapKept.heap_alloc w o).1
  have HKS : Hid (∀ (o : Obj) (n : Nat), KSeg (fun b => b < N) ((w.alloc o).drewN n) (.slice a3 ks.length p3) ks) := fun o n => hK.agree (agree_below ((below_drewN (hB0 o) n).mono hN))
  have HSg : Hid (∀ (o : Obj) (n : Nat), Seg ((w.alloc o).drewN n) ka key) := fun o n => hS.below (below_drewN (hB0 o) n) hSb
  clear hB0 hK hS hSb
  go_enter Try.func27, Try.ntmps27
  go_wp2_with fail
  go_loopw [5] (fun i wr => ∃ k : Nat, k ≤ ks.length ∧ i = .int .i64 k ∧ (∃ n, wr = (w.alloc (.cells #[.int .i64 k0, .int .i64 n0, .slice a2 l2 p2, .slice a3 ks.length p3, .slice a4 l4 p4] 30)).drewN n) ∧ ∀ i, i < k → ks.getD i [] ≠ key) (fun i _ => ks.length - (intOf i).toNat)
  case atStart => exact ⟨0, Nat.zero_le _, rfl, ⟨0, rfl⟩, fun i hi => absurd hi (by omega)⟩
  case round =>
    obtain ⟨k, hk, rfl, ⟨nd, rfl⟩, hnot⟩ := hrel
    obtain ⟨_, _, _, q3, _, _⟩ := row5 (HBx.out (.cells #[.int .i64 k0, .int .i64 n0, .slice a2 l2 p2, .slice a3 ks.length p3, .slice a4 l4 p4] 30) nd)
    have HNot := hide' hnot
    clear hnot
    by_cases hlt : k < ks.length
    · have hlt' : (k : Int) < (ks.length : Int) := by omega
      have hk0 : (0 : Int) ≤ (k : Int) := Int.natCast_nonneg _
      obtain ⟨kb, ko, rfl, hat⟩ := (HKS.out (.cells #[.int .i64 k0, .int .i64 n0, .slice a2 l2 p2, .slice a3 ks.length p3, .slice a4 l4 p4] 30) nd).at hlt
      obtain ⟨s2, e2, hu, g2, m2⟩ := hat k hlt
      have hsg := HSg.out (.cells #[.int .i64 k0, .int .i64 n0, .slice a2 l2 p2, .slice (some ⟨kb, ko, none⟩) ks.length p3, .slice a4 l4 p4] 30) nd
      generalize hwr : ((w.alloc (.cells #[.int .i64 k0, .int .i64 n0, .slice a2 l2 p2, .slice (some ⟨kb, ko, none⟩) ks.length p3, .slice a4 l4 p4] 30)).drewN nd) = wr at *
      have hcv2 : ∀ n, (convert 22 9 (.slice s2 (ks.getD k []).length e2)).run Try.prog (wr.drewN n) = .ok (.string (strOf (ks.getD k []))) (wr.drewN n) := fun n => conv_seg (w := wr.drewN n) e2 g2
      have hcv3 : ∀ n, (convert 22 9 (.slice ka key.length kc)).run Try.prog (wr.drewN n) = .ok (.string (strOf key)) (wr.drewN n) := fun n => conv_seg (w := wr.drewN n) kc hsg
      have hE := strOf_eq g2.1 hsg.1
      have HB : Hid (∀ n, Below w.heap.size w (wr.drewN n)) := by
        intro n
        rw [← hwr]
        exact below_drewN (below_drewN (HB0.out _) nd) n
      have HW : Hid (∀ n, ∃ n', wr.drewN n = (w.alloc (.cells #[.int .i64 k0, .int .i64 n0, .slice a2 l2 p2, .slice (some ⟨kb, ko, none⟩) ks.length p3, .slice a4 l4 p4] 30)).drewN n') := fun n => ⟨nd + n, by rw [← hwr]; simp [World.drewN, Nat.add_assoc]⟩
      by_cases he : ks.getD k [] = key
      · have hF := hide' (findK_at hlt HNot.out he)
        rw [decide_eq_true he] at hE
        generalize ks.getD k [] = xs at *
        clear hat g2 hsg hwr he HNot HKS HSg
        go_wp2_with fail
        go_quiet (fail)
        go_wp2
        go_ret
        exact ⟨ret_i64 hF.out.symm, HB.out _⟩
      · have hNot' : Hid (∀ i, i < k + 1 → ks.getD i [] ≠ key) := fun i hi => by
          by_cases e : i = k
          · subst e; exact he
          · exact HNot.out i (by omega)
        rw [decide_eq_false he] at hE
        generalize ks.getD k [] = xs at *
        clear hat g2 hsg hwr he HNot HKS HSg
        go_wp2_with fail
        go_quiet (fail)
        go_wp2
        go_roundw
        case rel => exact ⟨k + 1, by omega, by go_num, HW.out _, hNot'.out⟩
        case measure => simp [intOf]; omega
    · have hkn : k = ks.length := by omega
      subst hkn
      have hlt' : ¬ (ks.length : Int) < (ks.length : Int) := by omega
      have hF := hide' (findK_no HNot.out)
      clear HNot HKS HSg
      go_wp2
      go_ret
      exact ⟨ret_i64 hF.out.symm, below_drewN (HB0.out _) _⟩
end Go.Proofs.Ytbeekbkambkgoaa
/-
  What stands under a key in the datum of a map of parts whose keys ascend; no statement is proved here.
-/
namespace Go.Proofs.Ytbeekbkambkgoaa
open Go.RowKit
set_option linter.unusedVariables false
set_option linter.unusedSimpArgs false

theorem same_u8s {xs ys : List Int} (hx : ∀ x ∈ xs, Byt x) (hy : ∀ y ∈ ys, Byt y) : (Lit.string (u8s xs)).sameKey (.string (u8s ys)) = decide (xs = ys) := by
  have h := strOf_eq hx hy
  rw [strOf_list, strOf_list] at h
  rw [← h]
  simp [Lit.sameKey]

/-- Where the key is none of the map's. -/
theorem look_no {vK : List (List Int)} {ps : List Value} {n : Nat} {key : List Int} (hy : ∀ y ∈ key, Byt y) (hb : ∀ i, i < n → ∀ x ∈ vK.getD i [], Byt x) (hn : ∀ i, i < n → vK.getD i [] ≠ key) (zd : DataW Value) :
    Maps.has (.map (entF vK ps n)) (.string (u8s key)) = false ∧ (DataW.map (entF vK ps n)).atKey (.string (u8s key)) zd = zd := by
  have hnone : ∀ p ∈ entF vK ps n, p.1.sameKey (.string (u8s key)) = false := by
    intro p hp
    simp only [entF, List.mem_map, List.mem_range] at hp
    obtain ⟨i, hi, rfl⟩ := hp
    rw [same_u8s (hb i hi) hy]
    simpa using hn i hi
  refine ⟨?_, ?_⟩
  · simp only [Maps.has, List.any_eq_false]
    intro p hp
    simp [hnone p hp]
  · have : (entF vK ps n).find? (fun p => p.1.sameKey (.string (u8s key))) = none := by
      rw [List.find?_eq_none]
      intro p hp
      simp [hnone p hp]
    simp [DataW.atKey, this]

/-- Where it is the k-th, and none before it. -/
theorem look_yes {vK : List (List Int)} {ps : List Value} {n k : Nat} {key : List Int} (hy : ∀ y ∈ key, Byt y) (hb : ∀ i, i < n → ∀ x ∈ vK.getD i [], Byt x) (hk : k < n) (hn : ∀ i, i < k → vK.getD i [] ≠ key) (he : vK.getD k [] = key) (zd : DataW Value) :
    Maps.has (.map (entF vK ps n)) (.string (u8s key)) = true ∧ (DataW.map (entF vK ps n)).atKey (.string (u8s key)) zd = .held (ps.getD k .nilIface) := by
  have hfind : (entF vK ps n).find? (fun p => p.1.sameKey (.string (u8s key))) = some (.string (u8s (vK.getD k [])), .held (ps.getD k .nilIface)) := by
    rw [List.find?_eq_some_iff_getElem]
    refine ⟨?_, k, by simpa [entF] using hk, by simp [entF], fun j hj => ?_⟩
    · simp only
      rw [same_u8s (hb k hk) hy]
      simpa using he
    · have hj' : j < n := by omega
      simp only [entF, List.getElem_map, List.getElem_range]
      rw [same_u8s (hb j hj') hy]
      simpa using hn j hj
  refine ⟨?_, by simp [DataW.atKey, hfind]⟩
  simp only [Maps.has, List.any_eq_true]
  exact ⟨_, List.mem_of_find?_eq_some hfind, by have := List.find?_some hfind; simpa using this⟩
end Go.Proofs.Ytbeekbkambkgoaa
/-
  The look-up of a key in a map of parts, as the program runs it; no statement is proved here.
-/
namespace Go.Proofs.Ytbeekbkambkgoaa
open Go.RowKit
set_option linter.unusedVariables false
set_option linter.unusedSimpArgs false

theorem zero_part (w : World) : (zeroValue 56).run Try.prog w = .ok .nilIface w := by kernel_rfl

theorem look_at {wx : World} {b n k : Nat} {ks : List (List Int)} {ps : List Value} {key : List Int} (hm : wx.ownsMap Try.prog 9 tokR b 64 (mapD ks ps n)) (ha : ∀ i, i < n → stepB ks i = true) (hb : ∀ i, i < n → ∀ x ∈ ks.getD i [], Byt x) (hy : ∀ y ∈ key, Byt y) (hl : key.length ≤ maxLen)
    (hk : k < n) (hn : ∀ i, i < k → ks.getD i [] ≠ key) (he : ks.getD k [] = key) : (Instr.lookup 50 (.map (some b)) (.string (strOf key)) true).run Try.prog wx = .ok (.tuple #[ps.getD k .nilIface, .bool true]) wx := by
  rw [mapD_list ks ps n ha] at hm
  obtain ⟨v, q, hrun, hv⟩ := hm.look_ok (Maps.string_keyed Try.underlying9) Try.underlying50 (zero_part wx) (zd := .held .nilIface) (zp := []) rfl (keyS key hl)
  obtain ⟨h1, h2⟩ := look_yes (ps := ps) hy hb hk hn he (.held .nilIface)
  rw [h1] at hrun
  rw [h2] at hv
  simp only [tokR, Option.some.injEq, Prod.mk.injEq, DataW.held.injEq] at hv
  rw [← hv.1]
  exact hrun

theorem look_none {wx : World} {b n : Nat} {ks : List (List Int)} {ps : List Value} {key : List Int} (hm : wx.ownsMap Try.prog 9 tokR b 64 (mapD ks ps n)) (ha : ∀ i, i < n → stepB ks i = true) (hb : ∀ i, i < n → ∀ x ∈ ks.getD i [], Byt x) (hy : ∀ y ∈ key, Byt y) (hl : key.length ≤ maxLen)
    (hn : ∀ i, i < n → ks.getD i [] ≠ key) : (Instr.lookup 50 (.map (some b)) (.string (strOf key)) true).run Try.prog wx = .ok (.tuple #[.nilIface, .bool false]) wx := by
  rw [mapD_list ks ps n ha] at hm
  obtain ⟨v, q, hrun, hv⟩ := hm.look_ok (Maps.string_keyed Try.underlying9) Try.underlying50 (zero_part wx) (zd := .held .nilIface) (zp := []) rfl (keyS key hl)
  obtain ⟨h1, h2⟩ := look_no (ps := ps) hy hb hn (.held .nilIface)
  rw [h1] at hrun
  rw [h2] at hv
  simp only [tokR, Option.some.injEq, Prod.mk.injEq, DataW.held.injEq] at hv
  rw [hv.1] at hrun
  exact hrun
end Go.Proofs.Ytbeekbkambkgoaa
/-
  ValGet of the program.
-/
namespace Go.Proofs.Ytbeekbkambkgoaa
open Go.RowKit Go.Shelf
set_option linter.unusedVariables false
set_option linter.unusedSimpArgs false

/-- What ValGet leaves. -/
def GetEnd (d : Nat) (v : Vl (d + 1)) (key : List Int) (w : World) (e : Ending) (w' : World) : Prop :=
  Below w.heap.size w w' ∧ ((∃ (k : Nat) (hk : k < v.2.2.2.2.length), okB (d + 1) v = true ∧ v.1 = 5 ∧ findK v.2.2.2.1 key = k ∧ ∃ u0 u1 u2 u3 u4, e = .returned (.tuple #[.agg #[u0, u1, u2, u3, u4], .bool true]) ∧ ∃ B, VOwn w' d (u0, u1, u2, u3, u4) v.2.2.2.2[k] B ∧ ∀ b ∈ B, w.heap.size ≤ b ∧ b < w'.heap.size) ∨
    (¬ (okB (d + 1) v = true ∧ v.1 = 5 ∧ 0 ≤ findK v.2.2.2.1 key) ∧ e = .returned (.tuple #[.agg #[.int .i64 0, .int .i64 0, .slice none 0 0, .slice none 0 0, .slice none 0 0], .bool false])))

/-- What a map's part holds. -/
theorem mapPart_inv {R : Nat → Prop} {w : World} {d b : Nat} {v : Vl (d + 1)} (h : PSeg R w (d + 1) (.iface 52 (.agg #[.map (some b)])) v) (hk : v.1 = 5) :
    R b ∧ ∃ ps, w.ownsMap Try.prog 9 tokR b 64 (mapD v.2.2.2.1 ps v.2.2.2.2.length) ∧ ∀ i (h : i < v.2.2.2.2.length), PSeg R w d (ps.getD i .nilIface) (v.2.2.2.2[i]) := by
  rcases h with ⟨h, _⟩ | ⟨h, _⟩ | ⟨h, _⟩ | ⟨h, _⟩ | ⟨h, _⟩ | ⟨h, _⟩ | ⟨_, b', ps, e, hR, hm, hc⟩
  · omega
  · omega
  · omega
  · omega
  · omega
  · omega
  · simp at e
    subst e
    exact ⟨hR, ps, hm, hc⟩

/-- Found, or not. -/
theorem find_cases (ks : List (List Int)) (key : List Int) : (∃ k, k < ks.length ∧ ks.getD k [] = key ∧ (∀ i, i < k → ks.getD i [] ≠ key) ∧ findK ks key = k) ∨ ((∀ i, i < ks.length → ks.getD i [] ≠ key) ∧ findK ks key = -1) := by
  by_cases h : ∀ i, i < ks.length → ks.getD i [] ≠ key
  · exact .inr ⟨h, findK_no h⟩
  · have hex : ∃ i, i < ks.length ∧ ks.getD i [] = key := by
      simpa using h
    have hmin : ∀ n, (∃ i, i < n ∧ i < ks.length ∧ ks.getD i [] = key) → ∃ k, k < ks.length ∧ ks.getD k [] = key ∧ ∀ i, i < k → ks.getD i [] ≠ key := by
      intro n
      induction n with
      | zero => rintro ⟨i, h0, _⟩; omega
      | succ n ih =>
        rintro ⟨i, hi, hl, he⟩
        by_cases hlow : ∃ j, j < n ∧ j < ks.length ∧ ks.getD j [] = key
        · exact ih hlow
        · refine ⟨i, hl, he, fun j hj hje => hlow ⟨j, by omega, by omega, hje⟩⟩
    obtain ⟨i, hi, he⟩ := hex
    obtain ⟨k, h1, h2, h3⟩ := hmin (i + 1) ⟨i, by omega, hi, he⟩
    exact .inl ⟨k, h1, h2, h3, findK_at h1 h3 h2⟩
end Go.Proofs.Ytbeekbkambkgoaa
/-
  l2own of the specification: what its two loops leave.
-/
namespace Go.Proofs.Ytbeekbkambkgoaa
open Go.RowKit
set_option linter.unusedVariables false
set_option linter.unusedSimpArgs false

/-- After k rounds of the first loop: out's box (block O) holds k texts of the call's own. -/
def KInv (w2 : World) (O : Nat) (c0 c1 c2 : Value) (ks : List (List Int)) (k : Nat) (wr : World) (x : Value) (cs : List (List Value)) (Bi : List (List Nat)) : Prop :=
  wr.heap[O]? = some (.cells #[c0, c1, c2, x, .slice none 0 0] 30 (0, 0)) ∧ RW 22 1 (ItK ks) wr w2.heap.size x k cs Bi ∧ w2.grownBy wr (some O)

/-- After k rounds of the second loop: it holds k values besides. -/
def LInv (w3 : World) (O : Nat) (c0 c1 c2 c3 : Value) (d : Nat) (l : List (Vl d)) (k : Nat) (wr : World) (x : Value) (cs : List (List Value)) (Bi : List (List Nat)) : Prop :=
  wr.heap[O]? = some (.cells #[c0, c1, c2, c3, x] 30 (0, 0)) ∧ RW 30 5 (ItV d l) wr w3.heap.size x k cs Bi ∧ w3.grownBy wr (some O)

theorem grown_on {w2 wr w5 w6 : World} {O : Nat} {x v : Value} {o : Obj} {j : Nat} (h : w2.grownBy wr (some O)) (b5 : Below wr.heap.size wr w5) (hg : (w5.alloc o).grownBy w6 x.ownBlock) (hx : ∀ b, x.ownBlock = some b → w2.heap.size ≤ b) : w2.grownBy (w6.setCell ⟨O, j, none⟩ v) (some O) := by
  have h1 := h.size
  have h5 := b5.size
  have h6 := hg.size
  simp at h6
  refine ⟨h.os ▸ b5.os ▸ hg.os ▸ rfl, h.tape ▸ b5.tape ▸ hg.tape ▸ rfl, h.output ▸ b5.output ▸ hg.output ▸ rfl, by simp [World.setCell]; omega, fun b hb hne => ?_⟩
  have hbO : b ≠ O := fun e => hne (by rw [e])
  exact (Below.heap_setCell w6 ⟨O, j, none⟩ v b hbO).trans ((hg.block b (by simp; omega) (fun e => by have := hx b e.symm; omega)).trans ((Below.heap_alloc _ _ _ (by omega)).trans ((b5.block b (by omega)).trans (h.block b hb hne))))

theorem kinv_step {w2 wr w5 w6 : World} {O : Nat} {c0 c1 c2 : Value} {ks : List (List Int)} {x v5 : Value} {k g cp : Nat} {cs : List (List Value)} {Bi : List (List Nat)} {o : Obj} (h : KInv w2 O c0 c1 c2 ks k wr x cs Bi) (hO : O < w2.heap.size) (b5 : Below wr.heap.size wr w5) (hv : Bts w5 wr.heap.size v5 (ks.getD k []))
    (hown : w6.ownsRow w2.heap.size 22 1 (.slice (some ⟨g, 0, none⟩) (k + 1) cp) (k + 1) (cs.flatten ++ [v5])) (hg : (w5.alloc o).grownBy w6 x.ownBlock) (hat : x.ownBlock = some g ∨ g = w5.heap.size + 1) :
    w6.heap[O]? = some (.cells #[c0, c1, c2, x, .slice none 0 0] 30 (0, 0)) ∧ ∃ cs' Bi', KInv w2 O c0 c1 c2 ks (k + 1) (w6.setCell ⟨O, 3, none⟩ (.slice (some ⟨g, 0, none⟩) (k + 1) cp)) (.slice (some ⟨g, 0, none⟩) (k + 1) cp) cs' Bi' := by
  obtain ⟨h1, h2, h3⟩ := h
  obtain ⟨Bv, hT, hBv, hBn⟩ := tOwn_of hv
  have hz3 := h3.size
  have hz5 := b5.size
  have hxlt := h2.2.2.1.lt
  have hneB : some O ≠ x.ownBlock := fun e => by have := hxlt O e.symm; omega
  have hV6 : w6.heap[O]? = some (.cells #[c0, c1, c2, x, .slice none 0 0] 30 (0, 0)) := (hg.block O (by simp; omega) hneB).trans ((Below.heap_alloc _ _ _ (by omega)).trans ((b5.block O (by omega)).trans h1))
  have hR := RW.add (w2 := w5.alloc o) (ItK.agree ks) h2 (fun b hb => (Below.heap_alloc _ _ _ (by omega)).trans (b5.block b hb)) (by simp; omega) ⟨v5, rfl, hT.agree fun b hb => Below.heap_alloc _ _ _ (hBv b hb).2⟩ (fun b hb => by have := hBv b hb; simp; omega) hBn hz3 hown hg (by simpa using hat)
  refine ⟨hV6, cs ++ [[v5]], Bi ++ [Bv], heap_setCell_same w6 O 3 _ _ _ hV6, ?_, grown_on h3 b5 hg (fun b hb => (hxlt b hb).1)⟩
  refine hR.agree (ItK.agree ks) (fun b hb => ?_) (by simp [World.setCell])
  have := hR.2.2.2.2.2 b hb
  exact Below.heap_setCell w6 _ _ b (by show b ≠ O; omega)

theorem linv_step {w3 wr w5 w6 : World} {O d : Nat} {c0 c1 c2 c3 : Value} {l : List (Vl d)} {k : Nat} {x : Value} {cs : List (List Value)} {Bi : List (List Nat)} {c : List Value} {Bv : List Nat} {g cp : Nat} {o : Obj} (h : LInv w3 O c0 c1 c2 c3 d l k wr x cs Bi) (hO : O < w3.heap.size)
    (b5 : Below wr.heap.size wr w5) (hv : ItV d l w5 k c Bv) (hBv : ∀ b ∈ Bv, wr.heap.size ≤ b ∧ b < w5.heap.size) (hBn : Bv.Nodup)
    (hown : w6.ownsRow w3.heap.size 30 5 (.slice (some ⟨g, 0, none⟩) (k + 1) cp) (k + 1) (cs.flatten ++ c)) (hg : (w5.alloc o).grownBy w6 x.ownBlock) (hat : x.ownBlock = some g ∨ g = w5.heap.size + 1) :
    w6.heap[O]? = some (.cells #[c0, c1, c2, c3, x] 30 (0, 0)) ∧ LInv w3 O c0 c1 c2 c3 d l (k + 1) (w6.setCell ⟨O, 4, none⟩ (.slice (some ⟨g, 0, none⟩) (k + 1) cp)) (.slice (some ⟨g, 0, none⟩) (k + 1) cp) (cs ++ [c]) (Bi ++ [Bv]) := by
  obtain ⟨h1, h2, h3⟩ := h
  have hz3 := h3.size
  have hz5 := b5.size
  have hxlt := h2.2.2.1.lt
  have hneB : some O ≠ x.ownBlock := fun e => by have := hxlt O e.symm; omega
  have hV6 : w6.heap[O]? = some (.cells #[c0, c1, c2, c3, x] 30 (0, 0)) := (hg.block O (by simp; omega) hneB).trans ((Below.heap_alloc _ _ _ (by omega)).trans ((b5.block O (by omega)).trans h1))
  have hR := RW.add (w2 := w5.alloc o) (ItV.agree d l) h2 (fun b hb => (Below.heap_alloc _ _ _ (by omega)).trans (b5.block b hb)) (by simp; omega) (ItV.agree d l _ _ _ _ _ hv fun b hb => Below.heap_alloc _ _ _ (hBv b hb).2) (fun b hb => by have := hBv b hb; simp; omega) hBn hz3 hown hg (by simpa using hat)
  refine ⟨hV6, heap_setCell_same w6 O 4 _ _ _ hV6, ?_, grown_on h3 b5 hg (fun b hb => (hxlt b hb).1)⟩
  refine hR.agree (ItV.agree d l) (fun b hb => ?_) (by simp [World.setCell])
  have := hR.2.2.2.2.2 b hb
  exact Below.heap_setCell w6 _ _ b (by show b ≠ O; omega)

/-- The contract of l2own, at depth d. -/
def OwnAt (d : Nat) : Prop := ∀ (N : Nat) (c0 c1 c2 c3 c4 : Value) (v : Vl d) (w : World), VSeg (fun b => b < N) w d (c0, c1, c2, c3, c4) v → N ≤ w.heap.size → szV d v ≤ 1048576 → Calls Try.prog 28 #[.agg #[c0, c1, c2, c3, c4]] w (ValEnd d v w)

/-- What a call of l2own leaves of it. -/
def LCall (O : Nat) (base d : Nat) (l : List (Vl d)) (k : Nat) (wr : World) (x : Value) (xs : List Value) (e : Ending) (w5 : World) : Prop :=
  ∃ (uk un : Int) (s2 : Option Addr) (n2 r2 : Nat) (s3 : Option Addr) (n3 r3 : Nat) (s4 : Option Addr) (n4 r4 : Nat), e = .returned (.agg #[.int .i64 uk, .int .i64 un, .slice s2 n2 r2, .slice s3 n3 r3, .slice s4 n4 r4]) ∧
    ∃ Bv, ItV d l w5 k [.int .i64 uk, .int .i64 un, .slice s2 n2 r2, .slice s3 n3 r3, .slice s4 n4 r4] Bv ∧ (∀ b ∈ Bv, wr.heap.size ≤ b ∧ b < w5.heap.size) ∧ Bv.Nodup ∧ Below wr.heap.size wr w5 ∧ w5.cell? ⟨O, 4, none⟩ = some x ∧ w5.ownsRow base 30 5 x k xs

theorem linv_call {w3 wr wy w5 : World} {O d : Nat} {c0 c1 c2 c3 : Value} {l : List (Vl d)} {k : Nat} {x : Value} {cs : List (List Value)} {Bi : List (List Nat)} {e : Ending} (h : LInv w3 O c0 c1 c2 c3 d l k wr x cs Bi) (hO : O < w3.heap.size) (hk : k < l.length)
    (hy : Below wr.heap.size wr wy) (he : ValEnd d l[k] wy e w5) : LCall O w3.heap.size d l k wr x cs.flatten e w5 := by
  obtain ⟨u0, u1, u2, u3, u4, rfl, Bv, hv, hb, h5⟩ := he
  obtain ⟨uk, un, s2, n2, r2, s3, n3, r3, s4, n4, r4, rfl, rfl, rfl, rfl, rfl⟩ := VOwn.form d hv
  have hb5 := Below.on hy h5
  have hz := hy.size
  have hz3 := h.2.2.size
  refine ⟨uk, un, s2, n2, r2, s3, n3, r3, s4, n4, r4, rfl, Bv, ⟨_, rfl, hk, hv⟩, fun b hm => ?_, VOwn.nodup d hv, hb5, ?_, ?_⟩
  · have := hb b hm; omega
  · exact (World.cell?_of_block (hb5.block O (by omega))).trans (row5 h.1).2.2.2.2.1
  · exact h.2.1.2.2.1.kept (row := none) ⟨hb5.os, hb5.tape, hb5.output, hb5.size, fun k hk _ => hb5.block k hk⟩ (by cases hv : x.ownBlock <;> simp)

theorem own_end {wc wr wz wf : World} {N1 O R d : Nat} {vk vn : Int} {vS : List Int} {vK : List (List Int)} {vL : List (Vl d)} {sv xk xl : Value} {Bs Bk Bl : List Nat} (hT : TOwn wc sv vS Bs) (hBs : ∀ b ∈ Bs, N1 ≤ b ∧ b < wc.heap.size ∧ b ≠ O) (hSn : Bs.Nodup) (hK : KOwn wr xk vK Bk) (hBk : ∀ b ∈ Bk, wc.heap.size ≤ b ∧ b < wr.heap.size) (hKn : Bk.Nodup) (hL : LOwn wz d xl vL Bl) (hBl : ∀ b ∈ Bl, wr.heap.size ≤ b ∧ b < wz.heap.size) (hLn : Bl.Nodup)
    (h1 : wc.grownBy wr (some O)) (h2 : wr.grownBy wz (some O)) (h3 : wz.grownBy wf (some R)) (hO : O < wc.heap.size) (hR : R < N1) (hN1 : N1 ≤ wc.heap.size) : VOwn wf (d + 1) (.int .i64 vk, .int .i64 vn, sv, xk, xl) (vk, vn, vS, vK, vL) (Bs ++ (Bk ++ Bl)) ∧ ∀ b ∈ Bs ++ (Bk ++ Bl), N1 ≤ b ∧ b < wf.heap.size := by
  have s1 := h1.size
  have s2 := h2.size
  have s3 := h3.size
  refine ⟨⟨rfl, rfl, Bs, Bk, Bl, hT.agree fun b hb => ?_, hK.agree fun b hb => ?_, hL.agree fun b hb => ?_, rfl, ?_⟩, fun b hb => ?_⟩
  · obtain ⟨q1, q2, q3⟩ := hBs b hb
    exact (h3.block b (by omega) (by simp; omega)).trans ((h2.block b (by omega) (by simpa using q3)).trans (h1.block b q2 (by simpa using q3)))
  · obtain ⟨q1, q2⟩ := hBk b hb
    exact (h3.block b (by omega) (by simp; omega)).trans (h2.block b (by omega) (by simp; omega))
  · obtain ⟨q1, q2⟩ := hBl b hb
    exact h3.block b q2 (by simp; omega)
  · rw [List.nodup_append]
    refine ⟨hSn, ?_, fun x hx y hy => ?_⟩
    · rw [List.nodup_append]
      refine ⟨hKn, hLn, fun x hx y hy => ?_⟩
      have := hBk x hx
      have := hBl y hy
      omega
    · have := hBs x hx
      rcases List.mem_append.1 hy with hy | hy
      · have := hBk y hy; omega
      · have := hBl y hy; omega
  · rcases List.mem_append.1 hb with hb | hb
    · have := hBs b hb; omega
    · rcases List.mem_append.1 hb with hb | hb
      · have := hBk b hb; omega
      · have := hBl b hb; omega
end Go.Proofs.Ytbeekbkambkgoaa
/-
  Rows of bytes of the call's own: an empty one, one byte laid in a block, a nil slice.
-/
namespace Go.Proofs.Ytbeekbkambkgoaa
open Go.RowKit
set_option linter.unusedVariables false

theorem bts_empty (w : World) : Bts (w.alloc (.cells #[] 5)) w.heap.size (.slice (some ⟨w.heap.size, 0, none⟩) 0 0) [] :=
  ⟨by simp, by simpa [cellsOf] using World.ownsRow_lit (base := w.heap.size) (e := 5) (size := 1) w #[] 0 (Nat.le_refl _) (Nat.zero_le _) rfl⟩

/-- One byte that was laid in a block of its own. -/
theorem seg_one (w : World) (c : Int) (h : Byt c) : Seg (w.alloc (.cells #[.int .u8 c] 5)) (some ⟨w.heap.size, 0, none⟩) [c] := by
  refine ⟨by simpa using h, .inr ⟨w.heap.size, 0, rfl, fun i hi => ?_⟩⟩
  have : i = 0 := by simpa using hi
  subst this
  simp

theorem Bts.alloc {w : World} {base : Nat} {v : Value} {xs : List Int} (h : Bts w base v xs) (o : Obj) : Bts (w.alloc o) base v xs := ⟨h.1, h.2.alloc o⟩

theorem Bts.own {w : World} {base : Nat} {v : Value} {xs : List Int} (h : Bts w base v xs) : ∀ k, v.ownBlock = some k → base ≤ k := fun k hk => (h.2.lt k hk).1

theorem bts_nil (w : World) (base : Nat) : Bts w base (.slice none 0 0) [] := ⟨by simp, by simp [cellsOf], .inl ⟨rfl, rfl⟩⟩

end Go.Proofs.Ytbeekbkambkgoaa
/-
  'append(own, ys...)' as a step of a region that draws its order.
-/
namespace Go.Proofs.Ytbeekbkambkgoaa
open Go.RowKit
set_option linter.unusedVariables false
set_option linter.unusedSimpArgs false

theorem step_append_seg {ops : Array Oper} {o : Oper} {a : Act} {w : World} {K : Act → World → Prop} {Q : Exit → Act → World → Prop} {E : Prop} (hgd : o.guard = none) (s x : Operand)
    (ho : o.op = .call { callee := .builtin .append, args := #[s, x], argTypes := #[22, 22] })
    (base : Nat) (v : Value) (xs ys : List Int) (hs : a.eval s = v) (hB : Bts w base v xs) (ad : Option Addr) (m c : Nat) (hm : m = ys.length) (hx : a.eval x = .slice ad m c) (hS : Seg w ad ys) (hc : ad = none → c = 0)
    (hlen : xs.length + ys.length ≤ 1099511627776) (hbase : base ≤ w.heap.size)
    (h : ∀ v' w', Bts w' base v' (xs ++ ys) → w.grownBy w' v.ownBlock → K (a.put o.dst v') w') : if Region.wanted o (yielded ops a.tmps) = true then Oper.wp Try.prog o a w K Q else E := by
  have hw : Region.wanted o (yielded ops a.tmps) = true := by simp [Region.wanted, hgd]
  rw [if_pos hw]
  obtain ⟨i0, hi, hz0, hz1, hz2⟩ := info_parts info5
  have hbyt : ∀ z ∈ xs ++ ys, Byt z := by
    intro z hz
    rcases List.mem_append.1 hz with h1 | h1
    · exact hB.1 z h1
    · exact hS.1 z h1
  subst hm
  cases ad with
  | none =>
    have hc0 := hc rfl
    have hy : ys = [] := by
      rcases hS.2 with h0 | ⟨b, off, h1, _⟩
      · exact h0
      · simp at h1
    subst hc0
    subst hy
    have hrun := run_append_owned_none (P := Try.prog) (w := w) base 22 o.type 5 i0 1 Try.underlying22 hi v xs.length (cellsOf xs) hB.2
    unfold Oper.wp
    simp only [List.length_nil] at hx
    simp [execOp, ho, resolve, invoke, builtin, hs, hx, hrun, Result.andThen]
    exact h v w (by simpa using hB) (World.grownBy.refl _ _)
  | some ad =>
    obtain ⟨v', w', hrun, r1, r2, _⟩ := run_append_own (P := Try.prog) w base 22 o.type 5 i0 (.int .u8 0) 1 1 Try.underlying22 hi hz0 hz1 hz2 rfl (by decide) v xs.length (cellsOf xs) hB.2 ad ys.length c (cellsOf ys) (by simp [cellsOf])
      (by
        intro j u hu
        rcases hS.2 with h0 | ⟨b, off, h1, h2⟩
        · subst h0; simp [cellsOf] at hu
        · simp at h1
          subst h1
          have hj : j < ys.length := by
            have := (List.getElem?_eq_some_iff.1 hu).1
            simpa [cellsOf] using this
          rw [Addr.add_lit, h2 j hj]
          simp [cellsOf, hj] at hu
          simp [hj, hu])
      (by
        intro u hu
        simp only [cellsOf, List.mem_map] at hu
        obtain ⟨q, _, rfl⟩ := hu
        rfl)
      (by unfold maxLen; omega) (by omega) hbase
    unfold Oper.wp
    simp [execOp, ho, resolve, invoke, builtin, hs, hx, hrun, Result.andThen]
    exact h v' w' ⟨hbyt, by rw [cellsOf_append]; simpa using r1⟩ r2

end Go.Proofs.Ytbeekbkambkgoaa
