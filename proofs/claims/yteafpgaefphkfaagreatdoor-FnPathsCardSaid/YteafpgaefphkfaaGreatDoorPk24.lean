/-
  Texts that a law leans on, one behind the other; no statement is proved here.
-/
import Derived.Test.YteafpgaefphkfaaGreatDoorPk14
import Derived.Test.YteafpgaefphkfaaGreatDoorPk22
import Derived.Maps.OwnSet
import Derived.Test.YteafpgaefphkfaaGreatDoorPk1
import Derived.Test.YteafpgaefphkfaaGreatDoorPk23
import Derived.Test.YteafpgaefphkfaaGreatDoorPk4
import Derived.Deep.RegionWith
/-
  What stands under a key in the datum of a map of parts whose keys ascend; no statement is proved here.
-/
namespace Go.Proofs.YteafpgaefphkfaaGreatDoor
open Go.RowKit
set_option linter.unusedVariables false
set_option linter.unusedSimpArgs false

theorem same_u8s {xs ys : List Int} (hx : ∀ x ∈ xs, Byt x) (hy : ∀ y ∈ ys, Byt y) : (Lit.string (u8s xs)).sameKey (.string (u8s ys)) = decide (xs = ys) := by
  have h := strOf_eq hx hy
  rw [strOf_list, strOf_list] at h
  rw [← h]
  simp [Lit.sameKey]

/-- Where the key is none of the map's. -/
theorem look_no {vK : List (List Int)} {ps : List Value} {n : Nat} {key : List Int} (hy : ∀ y ∈ key, Byt y) (hb : ∀ i, i < n → ∀ x ∈ vK.getD i [], Byt x) (hn : ∀ i, i < n → vK.getD i [] ≠ key) (zd : DataW Value) :
    Maps.has (.map (entF vK ps n)) (.string (u8s key)) = false ∧ (DataW.map (entF vK ps n)).atKey (.string (u8s key)) zd = zd := by
  have hnone : ∀ p ∈ entF vK ps n, p.1.sameKey (.string (u8s key)) = false := by
    intro p hp
    simp only [entF, List.mem_map, List.mem_range] at hp
    obtain ⟨i, hi, rfl⟩ := hp
    rw [same_u8s (hb i hi) hy]
    simpa using hn i hi
  refine ⟨?_, ?_⟩
  · simp only [Maps.has, List.any_eq_false]
    intro p hp
    simp [hnone p hp]
  · have : (entF vK ps n).find? (fun p => p.1.sameKey (.string (u8s key))) = none := by
      rw [List.find?_eq_none]
      intro p hp
      simp [hnone p hp]
    simp [DataW.atKey, this]

/-- Where it is the k-th, and none before it. -/
theorem look_yes {vK : List (List Int)} {ps : List Value} {n k : Nat} {key : List Int} (hy : ∀ y ∈ key, Byt y) (hb : ∀ i, i < n → ∀ x ∈ vK.getD i [], Byt x) (hk : k < n) (hn : ∀ i, i < k → vK.getD i [] ≠ key) (he : vK.getD k [] = key) (zd : DataW Value) :
    Maps.has (.map (entF vK ps n)) (.string (u8s key)) = true ∧ (DataW.map (entF vK ps n)).atKey (.string (u8s key)) zd = .held (ps.getD k .nilIface) := by
  have hfind : (entF vK ps n).find? (fun p => p.1.sameKey (.string (u8s key))) = some (.string (u8s (vK.getD k [])), .held (ps.getD k .nilIface)) := by
    rw [List.find?_eq_some_iff_getElem]
    refine ⟨?_, k, by simpa [entF] using hk, by simp [entF], fun j hj => ?_⟩
    · simp only
      rw [same_u8s (hb k hk) hy]
      simpa using he
    · have hj' : j < n := by omega
      simp only [entF, List.getElem_map, List.getElem_range]
      rw [same_u8s (hb j hj') hy]
      simpa using hn j hj
  refine ⟨?_, by simp [DataW.atKey, hfind]⟩
  simp only [Maps.has, List.any_eq_true]
  exact ⟨_, List.mem_of_find?_eq_some hfind, by have := List.find?_some hfind; simpa using this⟩
end Go.Proofs.YteafpgaefphkfaaGreatDoor
/-
  The kind of a part: a method of an interface value, by the value's own type.
-/
namespace Go.Proofs.YteafpgaefphkfaaGreatDoor
open Go.RowKit Go.Shelf
set_option linter.unusedVariables false
set_option linter.unusedSimpArgs false

theorem meth_nullPart (x : Value) (w : World) : (method 276 103 x "loop.example/g00407/impl.kind").run Tryz.prog w = .ok (123, x) w := by kernel_rfl
theorem meth_unknownPart (x : Value) (w : World) : (method 276 104 x "loop.example/g00407/impl.kind").run Tryz.prog w = .ok (124, x) w := by kernel_rfl
theorem meth_boolPart (x : Value) (w : World) : (method 276 84 x "loop.example/g00407/impl.kind").run Tryz.prog w = .ok (118, x) w := by kernel_rfl
theorem meth_intPart (x : Value) (w : World) : (method 276 85 x "loop.example/g00407/impl.kind").run Tryz.prog w = .ok (119, x) w := by kernel_rfl
theorem meth_textPart (x : Value) (w : World) : (method 276 87 x "loop.example/g00407/impl.kind").run Tryz.prog w = .ok (120, x) w := by kernel_rfl
theorem meth_listPart (x : Value) (w : World) : (method 276 90 x "loop.example/g00407/impl.kind").run Tryz.prog w = .ok (121, x) w := by kernel_rfl
theorem meth_mapPart (x : Value) (w : World) : (method 276 93 x "loop.example/g00407/impl.kind").run Tryz.prog w = .ok (122, x) w := by kernel_rfl
set_option maxHeartbeats 800000 in
theorem kind_nullPart (w : World) : Calls Tryz.prog 123 #[.agg #[]] w fun e w' => e = .returned (.int .i64 0) ∧ Below w.heap.size w w' := by
  have Hb : Hid (∀ o : Obj, Below w.heap.size w (w.alloc o)) := fun o => (Below.refl _ _).alloc (Nat.le_refl _) o
  go_enter Tryz.func123, Tryz.ntmps123
  go_wp2
  go_ret
  exact ⟨rfl, Hb.out _⟩
set_option maxHeartbeats 800000 in
theorem kind_unknownPart (w : World) : Calls Tryz.prog 124 #[.agg #[]] w fun e w' => e = .returned (.int .i64 6) ∧ Below w.heap.size w w' := by
  have Hb : Hid (∀ o : Obj, Below w.heap.size w (w.alloc o)) := fun o => (Below.refl _ _).alloc (Nat.le_refl _) o
  go_enter Tryz.func124, Tryz.ntmps124
  go_wp2
  go_ret
  exact ⟨rfl, Hb.out _⟩
set_option maxHeartbeats 800000 in
theorem kind_boolPart (n : Int) (w : World) : Calls Tryz.prog 118 #[.agg #[.int .i64 n]] w fun e w' => e = .returned (.int .i64 1) ∧ Below w.heap.size w w' := by
  have Hb : Hid (∀ o : Obj, Below w.heap.size w (w.alloc o)) := fun o => (Below.refl _ _).alloc (Nat.le_refl _) o
  go_enter Tryz.func118, Tryz.ntmps118
  go_wp2
  go_ret
  exact ⟨rfl, Hb.out _⟩
set_option maxHeartbeats 800000 in
theorem kind_intPart (n : Int) (w : World) : Calls Tryz.prog 119 #[.agg #[.int .i64 n]] w fun e w' => e = .returned (.int .i64 2) ∧ Below w.heap.size w w' := by
  have Hb : Hid (∀ o : Obj, Below w.heap.size w (w.alloc o)) := fun o => (Below.refl _ _).alloc (Nat.le_refl _) o
  go_enter Tryz.func119, Tryz.ntmps119
  go_wp2
  go_ret
  exact ⟨rfl, Hb.out _⟩
set_option maxHeartbeats 800000 in
theorem kind_textPart (s : ByteArray) (w : World) : Calls Tryz.prog 120 #[.agg #[.string s]] w fun e w' => e = .returned (.int .i64 3) ∧ Below w.heap.size w w' := by
  have Hb : Hid (∀ o : Obj, Below w.heap.size w (w.alloc o)) := fun o => (Below.refl _ _).alloc (Nat.le_refl _) o
  go_enter Tryz.func120, Tryz.ntmps120
  go_wp2
  go_ret
  exact ⟨rfl, Hb.out _⟩
set_option maxHeartbeats 800000 in
theorem kind_listPart (a : Option Addr) (n c : Nat) (w : World) : Calls Tryz.prog 121 #[.agg #[.slice a n c]] w fun e w' => e = .returned (.int .i64 4) ∧ Below w.heap.size w w' := by
  have Hb : Hid (∀ o : Obj, Below w.heap.size w (w.alloc o)) := fun o => (Below.refl _ _).alloc (Nat.le_refl _) o
  go_enter Tryz.func121, Tryz.ntmps121
  go_wp2
  go_ret
  exact ⟨rfl, Hb.out _⟩
set_option maxHeartbeats 800000 in
theorem kind_mapPart (b : Nat) (w : World) : Calls Tryz.prog 122 #[.agg #[.map (some b)]] w fun e w' => e = .returned (.int .i64 5) ∧ Below w.heap.size w w' := by
  have Hb : Hid (∀ o : Obj, Below w.heap.size w (w.alloc o)) := fun o => (Below.refl _ _).alloc (Nat.le_refl _) o
  go_enter Tryz.func122, Tryz.ntmps122
  go_wp2
  go_ret
  exact ⟨rfl, Hb.out _⟩

end Go.Proofs.YteafpgaefphkfaaGreatDoor
/-
  takeAll of the program, walked.
-/
namespace Go.Proofs.YteafpgaefphkfaaGreatDoor
open Go.RowKit
set_option linter.unusedVariables false
set_option linter.unusedSimpArgs false

theorem PSeg.shape {R : Nat → Prop} {w : World} {d : Nat} {p : Value} {v : Vl d} (h : PSeg R w d p v) : ∃ t x, p = .iface t x := by
  cases d with
  | zero => exact h.elim
  | succ d =>
    rcases h with ⟨_, rfl⟩ | ⟨_, rfl⟩ | ⟨_, rfl⟩ | ⟨_, rfl⟩ | ⟨_, rfl⟩ | ⟨_, _, _, rfl, _⟩ | ⟨_, _, _, rfl, _⟩ <;> exact ⟨_, _, rfl⟩

set_option maxHeartbeats 4000000 in
theorem takeAll_of (d : Nat) (ih : TakeAt d) (N q n : Nat) (x : Value) (l : List (Vl d)) (deep : Nat) (w : World) (hx : LSeg (fun b => b < N) w d x l) (hNq : N ≤ q) (hq : q < w.heap.size) (hc : Cnt w q n) (hn : n ≤ 40) (hd : deep ≤ 6) :
    Calls Tryz.prog 54 #[.pointer (some ⟨q, 0, none⟩), x, .int .i64 deep] w fun e w' =>
      w.grownBy w' (some q) ∧ ((∃ y, e = .returned (.tuple #[y, .bool true]) ∧ TookAll d l deep n q w w' y) ∨ (e = .returned (.tuple #[.slice none 0 0, .bool false]) ∧ ¬ ((∀ j (h : j < l.length), goodB d l[j] deep = true) ∧ n + pre (partsV d) l l.length ≤ 40))) := by
  have HX := hide' hx
  obtain ⟨a4, p4, rfl, hlc, hcm, ka, _⟩ := hx
  unfold maxLen at hcm
  have HI := hide' ih
  have H0 : Hid (TA d l deep n q w w 0 (.slice none 0 0) []) := TA_zero hc hn
  obtain ⟨i0, hi, hz0, hz1, hz2⟩ := info_parts info_part
  clear ih hc
  go_enter Tryz.func54, Tryz.ntmps54
  go_wp2
  go_loopw [8, 15] (fun y i wr => ∃ (k : Nat) (ps : List Value), i = .int .i64 k ∧ TA d l deep n q w wr k y ps) (fun _ i _ => l.length - (intOf i).toNat)
  case atStart => exact ⟨0, [], rfl, H0.out⟩
  case round =>
    obtain ⟨k, ps, rfl, hT⟩ := hrel
    have HT := hide' hT
    obtain ⟨hk, hps, hown, hgood, hple, hcnt, hpseg, hgr⟩ := hT
    clear hgood hpseg hcnt
    by_cases hlt : k < l.length
    · have hlt' : (k : Int) < (l.length : Int) := by omega
      have hag := agree_grown hgr hNq hq
      have hcell : ∃ b off c, a4 = some ⟨b, off, none⟩ ∧ Five wr b (off + k * 5) c ∧ VSeg (fun b => b < N) wr d c (l[k]) := by
        obtain ⟨a', cap', e1, _, _, _, h5⟩ := HX.out
        simp only [Value.slice.injEq] at e1
        obtain ⟨rfl, _, _⟩ := e1
        rcases h5 with h0 | ⟨b, off, rfl, hR, hcc⟩
        · rw [h0] at hlt; simp at hlt
        · obtain ⟨c, h5, hv⟩ := hcc k hlt
          exact ⟨b, off, c, rfl, h5.agree hag hR, VSeg.agree hag d hv⟩
      obtain ⟨b, off, c, rfl, h5', hv⟩ := hcell
      obtain ⟨c0, c1, c2, c3, c4⟩ := c
      obtain ⟨q0, q1, q2, q3, q4⟩ := h5'
      simp only at q0 q1 q2 q3 q4
      have HV := hide' hv
      have hs := hgr.size
      obtain ⟨ck, cn, s2, l2, e2, s3, l3, e3, s4, l4, e4, rfl, rfl, rfl, rfl, rfl⟩ := VSeg.form d hv
      have hgW := World.grownBy_alloc wr (.cells #[.int .i64 ck, .int .i64 cn, .slice s2 l2 e2, .slice s3 l3 e3, .slice s4 l4 e4] 29) none
      have hTW := TA_none HT.out hgW
      have hC := HI.out N q (n + pre (partsV d) l k) _ l[k] deep _ (VSeg.agree (fun b hb => hgW.block b (by omega) (by simp)) d hv) hNq (by simp; omega) hTW.2.2.2.2.2.1 hple hd
      have HC := hide' hC
      have HTW := hide' hTW
      clear hv hag hgr hTW hC hgW
      go_wp2_with fail
      refine HC.out.mono ?_
      rintro e w1 ⟨hg1, hcase⟩
      clear q0 q1 q2 q3 q4
      rcases hcase with ⟨p, rfl, htook⟩ | ⟨rfl, hbad⟩
      · obtain ⟨pt, px, rfl⟩ := htook.2.2.2.shape
        have hrw := TA_row HTW.out hq hg1 (.cells #[.iface pt px] 55)
        have h63 : k + 1 ≤ 40 := by have := pre_ge d l (k + 1) hlt; have := pre_succ (partsV d) l k hlt; have := htook.2.1; omega
        have hs1 := hg1.size
        have hsW := HTW.out.2.2.2.2.2.2.2.size
        have HK := hide' htook
        clear htook hown
        go_wp2_with (at_builtin; refine wpList_append_own_at _ rfl _ _ 88 rfl w.heap.size 55 i0 .nilIface 1 16 Tryz.underlying88 hi hz0 hz1 hz2 rfl (by decide) _ k ps rfl hrw ⟨w1.heap.size, 0, none⟩ 1 1 [.iface pt px] rfl rfl (cell_one_new _ _ _) (by intro u hu; simp at hu; rw [hu]; rfl) (by unfold maxLen; omega) (by omega) (by simp; omega) ?_; intro y' w2 hown' hg2 hnil hloc)
        have hN := TA_next HTW.out hq hlt hg1 HK.out hown' hg2 hloc
        clear hown' hg2 hnil hloc hrw HK HTW HC
        go_wp2
        go_roundw
        case rel => exact ⟨k + 1, _, by go_num, hN⟩
        case measure => simp [intOf]; omega
      · have hgf := grownBy_trans HTW.out.2.2.2.2.2.2.2 hg1
        have hno : ¬ ((∀ j (h : j < l.length), goodB d l[j] deep = true) ∧ n + pre (partsV d) l l.length ≤ 40) := fun ⟨h1, h2⟩ => hbad ⟨h1 k hlt, by
          have h3 := pre_succ (partsV d) l k hlt
          have h4 := pre_le (partsV d) l (k + 1)
          have h5 := pre_all (partsV d) l
          omega⟩
        go_wp2
        go_ret2
        exact ⟨hgf, .inr ⟨rfl, hno⟩⟩
    · have hkn : k = l.length := by omega
      have hlt' : ¬ (k : Int) < (l.length : Int) := by omega
      rw [hkn] at HT
      have hE := TA_end HT.out
      have hgf := HT.out.2.2.2.2.2.2.2
      clear hkn
      go_wp2
      go_ret2
      exact ⟨hgf, .inl ⟨_, rfl, hE⟩⟩
end Go.Proofs.YteafpgaefphkfaaGreatDoor
/-
  Good values are alike just if their bytes are. Plain mathematics.
-/
namespace Go.Proofs.YteafpgaefphkfaaGreatDoor
open Go.RowKit
set_option linter.unusedVariables false
set_option linter.unusedSimpArgs false

end Go.Proofs.YteafpgaefphkfaaGreatDoor
/-
  cmpParts of the program: parts of different kinds; what has no parts.
-/
namespace Go.Proofs.YteafpgaefphkfaaGreatDoor
open Go.RowKit Go.Shelf
set_option linter.unusedVariables false
set_option linter.unusedSimpArgs false

end Go.Proofs.YteafpgaefphkfaaGreatDoor
/-
  mapWith of the program, walked: it makes a map of names and parts.
-/
namespace Go.Proofs.YteafpgaefphkfaaGreatDoor
open Go.RowKit
set_option linter.unusedVariables false
set_option linter.unusedSimpArgs false

theorem keyS (xs : List Int) (h : xs.length ≤ maxLen) : Go.keyOf Tryz.prog 9 (.string (strOf xs)) = some (.string (u8s xs)) :=
  WideMaps.keyOf_string_mk Tryz.underlying9 (by show (xs.map _).toArray.size ≤ maxLen; rw [List.size_toArray, List.length_map]; exact h)

/-- What mapWith leaves: a new map with these entries. -/
def MapWEnd (vK : List (List Int)) (ps : List Value) (m : Nat) (w : World) (e : Ending) (w' : World) : Prop :=
  ∃ b, e = .returned (.agg #[.map (some b)]) ∧ w.heap.size ≤ b ∧ b < w'.heap.size ∧ w'.ownsMap Tryz.prog 9 tokR b m (mapD vK ps m) ∧ Below w.heap.size w w'

set_option maxHeartbeats 4000000 in
theorem mapWith_of (N : Nat) (z : Value) (vK : List (List Int)) (m : Nat) (a : Option Addr) (cap : Nat) (ps : List Value) (w : World) (hz : KSeg (fun b => b < N) w z vK) (hN : N ≤ w.heap.size) (hkl : vK.length = m) (hlen : m ≤ 40)
    (hcell : m = 0 ∨ ∃ b off, a = some ⟨b, off, none⟩ ∧ b < w.heap.size ∧ ∀ i, i < m → w.cell? ⟨b, off + i, none⟩ = some (ps.getD i .nilIface)) (hsh : ∀ i, i < m → ∃ pt px, ps.getD i .nilIface = .iface pt px) :
    Calls Tryz.prog 62 #[z, .slice a m cap] w (MapWEnd vK ps m w) := by
  have HZ := hide' hz
  have HC := hide' hcell
  have HSh := hide' hsh
  have HKL := hide' hkl
  obtain ⟨a3, p3, rfl, hlc3, hcm3, ka3, _⟩ := hz
  unfold maxLen at hcm3
  have hmk := run_makeMapN 91 9 55 (m : Int) (w.alloc (.cells #[.map none] 93)) Tryz.underlying91
  have hM0 : ((w.alloc (.cells #[.map none] 93)).alloc (.map #[] 0)).ownsMap Tryz.prog 9 tokR (w.heap.size + 1) 0 (mapD vK ps 0) := by
    have := World.ownsMap_made (w.alloc (.cells #[.map none] 93)) Tryz.prog 9 tokR
    rw [World.size_alloc] at this
    exact this
  rw [World.size_alloc] at hmk
  rw [hkl] at HZ
  rw [hkl] at hlc3
  rw [hkl]
  clear hcell hsh hkl
  go_enter Tryz.func62, Tryz.ntmps62
  go_wp2
  go_loopw [13] (fun i wr => ∃ k : Nat, k ≤ m ∧ i = .int .i64 k ∧ wr.ownsMap Tryz.prog 9 tokR (w.heap.size + 1) k (mapD vK ps k) ∧ Hid (((w.alloc (.cells #[.map none] 93)).alloc (.map #[] 0)).grownBy wr (some (w.heap.size + 1)))) (fun i _ => m - (intOf i).toNat)
  case atStart => exact ⟨0, Nat.zero_le _, rfl, hM0, World.grownBy.refl _ _⟩
  case round =>
    obtain ⟨k, hk, rfl, hown, hgr⟩ := hrel
    clear hM0 hmk
    have hal1 : w.grownBy (w.alloc (.cells #[.map none] 93)) none := World.grownBy_alloc w _ none
    have hal2 : (w.alloc (.cells #[.map none] 93)).grownBy ((w.alloc (.cells #[.map none] 93)).alloc (.map #[] 0)) none := World.grownBy_alloc _ _ none
    have hlow2 : ∀ b, b < w.heap.size + 1 → wr.heap[b]? = (w.alloc (.cells #[.map none] 93)).heap[b]? := fun b hb => (hgr.out.block b (by simp; omega) (by simp; omega)).trans (hal2.block b (by simp; omega) (by simp))
    have hlow : ∀ b, b < w.heap.size → wr.heap[b]? = w.heap[b]? := fun b hb => (hlow2 b (by omega)).trans (hal1.block b hb (by simp))
    by_cases hlt : k < m
    · have hlt' : (k : Int) < (m : Int) := by omega
      have hit : ∃ b off, a = some ⟨b, off, none⟩ ∧ wr.cell? ⟨b, off + k, none⟩ = some (ps.getD k .nilIface) := by
        rcases HC.out with h0 | ⟨b, off, rfl, hb, hcc⟩
        · omega
        · exact ⟨b, off, rfl, (World.cell?_of_block (hlow b hb)).trans (hcc k hlt)⟩
      obtain ⟨ib, io, rfl, hitem⟩ := hit
      have hag : Agree (fun b => b < N) w wr := fun b hb => hlow b (by omega)
      have hKr : KSeg (fun b => b < N) wr (.slice a3 m p3) vK := HZ.out.agree hag
      have hltK : k < vK.length := by have := HKL.out; omega
      obtain ⟨kb, ko, rfl, hat⟩ := hKr.at hltK
      obtain ⟨s2, e2, hu, g2, m2⟩ := hat k hltK
      have hcv := conv_seg e2 g2
      have hkey := keyS (vK.getD k []) m2
      have HD : Hid (mapD vK ps (k + 1) = (mapD vK ps k).put (.string (u8s (vK.getD k []))) (.held (ps.getD k .nilIface))) := rfl
      obtain ⟨pt, px, hpx⟩ := HSh.out k hlt
      rw [hpx] at hitem HD
      generalize vK.getD k [] = ys at *
      clear hlow hlow2 hag hKr hat g2 hal1 hal2 hpx
      go_wp2_with (at_mapUpdate; refine wpList_mapUpdate_own _ rfl _ _ _ 91 rfl 9 55 (Maps.string_keyed Tryz.underlying9) Tryz.underlying91 tokR (w.heap.size + 1) k _ rfl hown (by unfold maxLen; omega) _ _ _ rfl rfl hkey _ [] rfl ?_; intro w3 hown3 hg3)
      have hown4 : w3.ownsMap Tryz.prog 9 tokR (w.heap.size + 1) (k + 1) (mapD vK ps (k + 1)) := by rw [HD.out]; exact hown3
      have hgr3 : Hid (((w.alloc (.cells #[.map none] 93)).alloc (.map #[] 0)).grownBy w3 (some (w.heap.size + 1))) := grownBy_trans hgr.out hg3
      clear hown3 hg3 hown hgr hkey hcv hitem hu
      go_wp2
      go_roundw
      case rel => exact ⟨k + 1, by omega, by go_num, hown4, hgr3⟩
      case measure => simp [intOf]; omega
    · have hkn : k = m := by omega
      have hlt' : ¬ (k : Int) < (m : Int) := by omega
      obtain rfl := hkn
      have hsz3 : w.heap.size + 2 ≤ wr.heap.size := by have := hgr.out.size; simpa using this
      have hR : wr.heap[w.heap.size]? = some (.cells #[.map none] 93 (0, 0)) := (hlow2 w.heap.size (by omega)).trans (MapKept.heap_alloc w _).1
      have rc : wr.cell? ⟨w.heap.size, 0, none⟩ = some (.map none) := by rw [cell_of_row wr w.heap.size 0 _ _ _ hR]; rfl
      have rf : wr.frozen? ⟨w.heap.size, 0, none⟩ = false := frozen_of_row _ _ _ _ _ hR
      have hBw : Below w.heap.size w wr := ⟨hgr.out.os, hgr.out.tape, hgr.out.output, by omega, fun b hb => hlow b hb⟩
      have HR := hide' hR
      have HBw := hide' hBw
      clear hlow hlow2 hal1 hal2 hgr hR hBw
      go_wp2_with fail
      have hrow := heap_setCell_same wr w.heap.size 0 _ _ (.map (some (w.heap.size + 1))) HR.out
      have hc := cell_of_row _ _ 0 _ _ _ hrow
      have hg := grown1 wr w.heap.size 0 (.map (some (w.heap.size + 1)))
      refine bodyPost_ret (v := .agg #[.map (some (w.heap.size + 1))]) (by simp [results, Tryz.results62, go_sem, hc]) rfl ?_
      exact ⟨w.heap.size + 1, rfl, by omega, by simp [World.setCell]; omega, hown.kept hg (by simp), HBw.out.grown hg (by omega) (by intro j hj; simp at hj; omega)⟩
end Go.Proofs.YteafpgaefphkfaaGreatDoor
/-
  A slice of parts, read place by place; no statement is proved here.
-/
namespace Go.Proofs.YteafpgaefphkfaaGreatDoor
open Go.RowKit
set_option linter.unusedVariables false

theorem PLSeg.at {R : Nat → Prop} {w : World} {d : Nat} {a : Option Addr} {n cap : Nat} {l : List (Vl d)} (h : PLSeg R w d (.slice a n cap) l) {k : Nat} (hk : k < l.length) : ∃ b off t x, a = some ⟨b, off, none⟩ ∧ R b ∧ w.cell? ⟨b, off + k, none⟩ = some (.iface t x) ∧ PSeg R w d (.iface t x) (l[k]) := by
  obtain ⟨a', cap', e, hc⟩ := h
  simp only [Value.slice.injEq] at e
  obtain ⟨rfl, _, _⟩ := e
  rcases hc with h0 | ⟨b, off, rfl, hR, hc⟩
  · rw [h0] at hk; simp at hk
  · obtain ⟨u, hu, hv⟩ := hc k hk
    obtain ⟨t, x, rfl⟩ := hv.shape
    exact ⟨b, off, t, x, rfl, hR, hu, hv⟩

theorem PLSeg.grow {w w' : World} {d : Nat} {x : Value} {l : List (Vl d)} (h : PLSeg (fun b => b < w.heap.size) w d x l) (hb : Below w.heap.size w w') : PLSeg (fun b => b < w.heap.size) w' d x l := by
  obtain ⟨a, cap, e, hc⟩ := h
  refine ⟨a, cap, e, ?_⟩
  rcases hc with h0 | ⟨b, off, e1, hR, hc⟩
  · exact .inl h0
  · refine .inr ⟨b, off, e1, hR, fun i hi => ?_⟩
    obtain ⟨u, hu, hv⟩ := hc i hi
    exact ⟨u, (cell_agree (agree_below hb) hR).trans hu, PSeg.carry (fun b hb => hb) (agree_below hb) d hv⟩
end Go.Proofs.YteafpgaefphkfaaGreatDoor
