/-
  Texts that a law leans on, one behind the other; no statement is proved here.
-/
import Derived.Test.YteafpgaefphkfaaGreatDoorPk23
import Derived.Test.YteafpgaefphkfaaGreatDoorPk36
import Derived.Test.YteafpgaefphkfaaGreatDoorPk14
import Derived.Test.YteafpgaefphkfaaGreatDoorPk11
import Derived.Test.YteafpgaefphkfaaGreatDoorPk10
/-
  partAt and partAlong of the program: the part at a step, at a path; no statement is proved here.
-/
namespace Go.Proofs.YteafpgaefphkfaaGreatDoor
open Go.RowKit Go.Shelf
set_option linter.unusedVariables false
set_option linter.unusedSimpArgs false

theorem nolist_boolPart (x : Value) (w : World) : (Instr.typeAssert (.iface 84 x) 55 90 true).run Tryz.prog w = .ok (.tuple #[.agg #[.slice none 0 0], .bool false]) w := by kernel_rfl
theorem nolist_intPart (x : Value) (w : World) : (Instr.typeAssert (.iface 85 x) 55 90 true).run Tryz.prog w = .ok (.tuple #[.agg #[.slice none 0 0], .bool false]) w := by kernel_rfl
theorem nolist_textPart (x : Value) (w : World) : (Instr.typeAssert (.iface 87 x) 55 90 true).run Tryz.prog w = .ok (.tuple #[.agg #[.slice none 0 0], .bool false]) w := by kernel_rfl
theorem nolist_nil (w : World) : (Instr.typeAssert .nilIface 55 90 true).run Tryz.prog w = .ok (.tuple #[.agg #[.slice none 0 0], .bool false]) w := by kernel_rfl

/-- The part for a place: nil where there is none. -/
def PNod (R : Nat → Prop) (w : World) (p : Value) : Option Nod → Prop
  | none => p = .nilIface
  | some n => PSeg R w n.1 p n.2 ∧ ∃ dp, goodB n.1 n.2 dp = true ∧ partsV n.1 n.2 ≤ 40

theorem PNod.carry {R R' : Nat → Prop} {w w' : World} {p : Value} {o : Option Nod} (h : PNod R w p o) (hr : ∀ b, R b → R' b) (ha : Agree R w w') : PNod R' w' p o := by
  cases o with
  | none => exact h
  | some n => exact ⟨PSeg.carry hr ha n.1 h.1, h.2⟩

theorem PNod.form {R : Nat → Prop} {w : World} {p : Value} {o : Option Nod} (h : PNod R w p o) : (o = none ∧ p = .nilIface) ∨ ∃ n t x, o = some n ∧ p = .iface t x := by
  cases o with
  | none => exact .inl ⟨rfl, h⟩
  | some n =>
    obtain ⟨t, x, e⟩ := h.1.shape
    exact .inr ⟨n, t, x, rfl, e⟩

theorem look1_at {wx : World} {b n k : Nat} {ks : List (List Int)} {ps : List Value} {key : List Int} (hm : wx.ownsMap Tryz.prog 9 tokR b 64 (mapD ks ps n)) (ha : ∀ i, i < n → stepB ks i = true) (hb : ∀ i, i < n → ∀ x ∈ ks.getD i [], Byt x) (hy : ∀ y ∈ key, Byt y) (hl : key.length ≤ maxLen)
    (hk : k < n) (hn : ∀ i, i < k → ks.getD i [] ≠ key) (he : ks.getD k [] = key) : (Instr.lookup 91 (.map (some b)) (.string (strOf key)) false).run Tryz.prog wx = .ok (ps.getD k .nilIface) wx := by
  rw [mapD_list ks ps n ha] at hm
  obtain ⟨v, q, hrun, hv⟩ := hm.lookup (Maps.string_keyed Tryz.underlying9) Tryz.underlying91 (zero_part wx) (zd := .held .nilIface) (zp := []) rfl (keyS key hl)
  obtain ⟨h1, h2⟩ := look_yes (ps := ps) hy hb hk hn he (.held .nilIface)
  rw [h2] at hv
  simp only [tokR, Option.some.injEq, Prod.mk.injEq, DataW.held.injEq] at hv
  rw [← hv.1]
  exact hrun

theorem look1_none {wx : World} {b n : Nat} {ks : List (List Int)} {ps : List Value} {key : List Int} (hm : wx.ownsMap Tryz.prog 9 tokR b 64 (mapD ks ps n)) (ha : ∀ i, i < n → stepB ks i = true) (hb : ∀ i, i < n → ∀ x ∈ ks.getD i [], Byt x) (hy : ∀ y ∈ key, Byt y) (hl : key.length ≤ maxLen)
    (hn : ∀ i, i < n → ks.getD i [] ≠ key) : (Instr.lookup 91 (.map (some b)) (.string (strOf key)) false).run Tryz.prog wx = .ok .nilIface wx := by
  rw [mapD_list ks ps n ha] at hm
  obtain ⟨v, q, hrun, hv⟩ := hm.lookup (Maps.string_keyed Tryz.underlying9) Tryz.underlying91 (zero_part wx) (zd := .held .nilIface) (zp := []) rfl (keyS key hl)
  obtain ⟨h1, h2⟩ := look_no (ps := ps) hy hb hn (.held .nilIface)
  rw [h2] at hv
  simp only [tokR, Option.some.injEq, Prod.mk.injEq, DataW.held.injEq] at hv
  rw [hv.1] at hrun
  exact hrun

/-- What partAt leaves. -/
def PAtEnd (N : Nat) (o : Option Nod) (s : Stp) (w : World) (e : Ending) (w' : World) : Prop := ∃ q, e = .returned q ∧ PNod (fun b => b < N) w' q (o.bind fun n => stepN n s) ∧ Below w.heap.size w w'

set_option maxHeartbeats 1600000 in
/-- .. at what is neither a list nor a map. -/
theorem partAt_none (p : Value) (sk : Int) (a1 : Option Addr) (n1 p1 : Nat) (si : Int) (w : World) (hnl : ∀ w, (Instr.typeAssert p 55 90 true).run Tryz.prog w = .ok (.tuple #[.agg #[.slice none 0 0], .bool false]) w) (hnm : ∀ w, (Instr.typeAssert p 55 93 true).run Tryz.prog w = .ok (.tuple #[.agg #[.map none], .bool false]) w)
    (hpf : p = .nilIface ∨ ∃ t x, p = .iface t x) : Calls Tryz.prog 42 #[p, .agg #[.int .i64 sk, .slice a1 n1 p1, .int .i64 si]] w fun e w' => e = .returned .nilIface ∧ Below w.heap.size w w' := by
  have HA : Hid (∀ o : Obj, Below w.heap.size w (w.alloc o)) := fun o => (Below.refl _ _).alloc (Nat.le_refl _) o
  rcases hpf with rfl | ⟨t, x, rfl⟩
  · go_enter Tryz.func42, Tryz.ntmps42
    go_wp2
    go_ret
    exact ⟨rfl, HA.out _⟩
  · go_enter Tryz.func42, Tryz.ntmps42
    go_wp2
    go_ret
    exact ⟨rfl, HA.out _⟩

set_option maxHeartbeats 1600000 in
/-- .. at a list, a place that it has. -/
theorem partAt_item (a : Option Addr) (n c : Nat) (b off : Nat) (ha : a = some ⟨b, off, none⟩) (k : Nat) (hk : k < n) (t : TypeId) (x : Value) (a1 : Option Addr) (n1 p1 : Nat) (w : World) (hb : b < w.heap.size) (hc : w.cell? ⟨b, off + k, none⟩ = some (.iface t x)) :
    Calls Tryz.prog 42 #[.iface 90 (.agg #[.slice a n c]), .agg #[.int .i64 1, .slice a1 n1 p1, .int .i64 k]] w fun e w' => e = .returned (.iface t x) ∧ Below w.heap.size w w' := by
  subst ha
  have h1 := is_listPart (.agg #[.slice (some ⟨b, off, none⟩) n c])
  have HA : Hid (∀ o o' : Obj, Below w.heap.size w ((w.alloc o).alloc o')) := fun o o' => ((Below.refl _ _).alloc (Nat.le_refl _) o).alloc (by simp) o'
  have hc2 : ∀ o o' : Obj, ((w.alloc o).alloc o').cell? ⟨b, off + k, none⟩ = some (.iface t x) := fun o o' => (World.cell?_of_block ((HA.out o o').block b hb)).trans hc
  have hk' : (k : Int) < (n : Int) := by omega
  have hk0 : (0 : Int) ≤ (k : Int) := Int.natCast_nonneg _
  clear hc
  go_enter Tryz.func42, Tryz.ntmps42
  go_wp2
  go_ret
  exact ⟨rfl, HA.out _ _⟩

set_option maxHeartbeats 1600000 in
/-- .. at a list, all else. -/
theorem partAt_list (a : Option Addr) (n c : Nat) (sk : Int) (a1 : Option Addr) (n1 p1 : Nat) (si : Int) (w : World) (h : sk = 1 → ¬ si < (n : Int)) :
    Calls Tryz.prog 42 #[.iface 90 (.agg #[.slice a n c]), .agg #[.int .i64 sk, .slice a1 n1 p1, .int .i64 si]] w fun e w' => e = .returned .nilIface ∧ Below w.heap.size w w' := by
  have h1 := is_listPart (.agg #[.slice a n c])
  have HA : Hid (∀ o o' : Obj, Below w.heap.size w ((w.alloc o).alloc o')) := fun o o' => ((Below.refl _ _).alloc (Nat.le_refl _) o).alloc (by simp) o'
  by_cases hk : sk = 1
  · subst hk
    have h' := h rfl
    clear h
    go_enter Tryz.func42, Tryz.ntmps42
    go_wp2
    go_ret
    exact ⟨rfl, HA.out _ _⟩
  · clear h
    go_enter Tryz.func42, Tryz.ntmps42
    go_wp2
    go_ret
    exact ⟨rfl, HA.out _ _⟩

set_option maxHeartbeats 1600000 in
/-- .. at a map, a key. -/
theorem partAt_key (b : Nat) (a1 : Option Addr) (p1 : Nat) (key : List Int) (si : Int) (q : Value) (w : World) (hS : Seg w a1 key) (hSb : ∀ x, a1 = some x → key ≠ [] → x.block < w.heap.size) (hq : ∀ o o' : Obj, (Instr.lookup 91 (.map (some b)) (.string (strOf key)) false).run Tryz.prog ((w.alloc o).alloc o') = .ok q ((w.alloc o).alloc o')) (hqf : q = .nilIface ∨ ∃ t x, q = .iface t x) :
    Calls Tryz.prog 42 #[.iface 93 (.agg #[.map (some b)]), .agg #[.int .i64 0, .slice a1 key.length p1, .int .i64 si]] w fun e w' => e = .returned q ∧ Below w.heap.size w w' := by
  have h1 := nolist_mapPart (.agg #[.map (some b)])
  have h2 := is_mapPart (.agg #[.map (some b)])
  have HA : Hid (∀ o o' : Obj, Below w.heap.size w ((w.alloc o).alloc o')) := fun o o' => ((Below.refl _ _).alloc (Nat.le_refl _) o).alloc (by simp) o'
  have hcv : ∀ o o' : Obj, (convert 22 9 (.slice a1 key.length p1)).run Tryz.prog ((w.alloc o).alloc o') = .ok (.string (strOf key)) ((w.alloc o).alloc o') := fun o o' => conv_seg p1 (hS.below (HA.out o o') hSb)
  clear hS hSb
  generalize strOf key = sx at *
  generalize key.length = kn at *
  rcases hqf with rfl | ⟨t, x, rfl⟩
  · go_enter Tryz.func42, Tryz.ntmps42
    go_wp2
    go_ret
    exact ⟨rfl, HA.out _ _⟩
  · go_enter Tryz.func42, Tryz.ntmps42
    go_wp2
    go_ret
    exact ⟨rfl, HA.out _ _⟩

set_option maxHeartbeats 1600000 in
/-- .. at a map, all else. -/
theorem partAt_map (b : Nat) (sk : Int) (a1 : Option Addr) (n1 p1 : Nat) (si : Int) (w : World) (h : sk ≠ 0) :
    Calls Tryz.prog 42 #[.iface 93 (.agg #[.map (some b)]), .agg #[.int .i64 sk, .slice a1 n1 p1, .int .i64 si]] w fun e w' => e = .returned .nilIface ∧ Below w.heap.size w w' := by
  have h1 := nolist_mapPart (.agg #[.map (some b)])
  have h2 := is_mapPart (.agg #[.map (some b)])
  have HA : Hid (∀ o o' : Obj, Below w.heap.size w ((w.alloc o).alloc o')) := fun o o' => ((Below.refl _ _).alloc (Nat.le_refl _) o).alloc (by simp) o'
  go_enter Tryz.func42, Tryz.ntmps42
  go_wp2
  go_ret
  exact ⟨rfl, HA.out _ _⟩

theorem partAt_any (N : Nat) (p : Value) (o : Option Nod) (c0 c1 c2 : Value) (s : Stp) (w : World) (hp : PNod (fun b => b < N) w p o) (hs : StSeg (fun b => b < N) w (c0, c1, c2) s) (hN : N ≤ w.heap.size) (hok : stpB s = true) (hkl : s.2.1.length ≤ maxLen) :
    Calls Tryz.prog 42 #[p, .agg #[c0, c1, c2]] w (PAtEnd N o s w) := by
  obtain ⟨sk, ss, si⟩ := s
  obtain ⟨e0, ht, e2⟩ := hs
  simp only at e0 ht e2 hkl
  subst e0
  subst e2
  obtain ⟨a1, p1, rfl, hS, _, _, _, hSb⟩ := ht
  have hSb' : ∀ x, a1 = some x → ss ≠ [] → x.block < w.heap.size := fun x hx he => by have := hSb x hx he; omega
  have none_of : ∀ q : Value, q = p → (o.bind fun n => stepN n (sk, ss, si)) = none → (Calls Tryz.prog 42 #[p, .agg #[.int .i64 sk, .slice a1 ss.length p1, .int .i64 si]] w fun e w' => e = .returned .nilIface ∧ Below w.heap.size w w') → Calls Tryz.prog 42 #[p, .agg #[.int .i64 sk, .slice a1 ss.length p1, .int .i64 si]] w (PAtEnd N o (sk, ss, si) w) := by
    intro q _ h1 h2
    refine h2.mono ?_
    rintro e w' ⟨rfl, hb⟩
    exact ⟨_, rfl, by rw [h1]; rfl, hb⟩
  cases o with
  | none =>
    have hp' : p = .nilIface := hp
    subst hp'
    exact none_of _ rfl rfl (partAt_none _ sk a1 _ p1 si w nolist_nil nomap_nil (.inl rfl))
  | some n =>
    obtain ⟨d, v⟩ := n
    obtain ⟨hps, dp, hg, hn⟩ := hp
    simp only at hps hg hn
    cases d with
    | zero => exact hps.elim
    | succ d =>
      obtain ⟨vk, vn, vs, vK, vL⟩ := v
      have hps0 := hps
      have hgs := (good_succ _ _ _ _ _ _ _).1 hg
      have hkid := parts_kid hn
      have kid_no : ∀ h : ¬ (sk = 0 ∧ vk = 5) ∧ ¬ (sk = 1 ∧ vk = 4 ∧ si < vL.length), ((some (⟨d + 1, (vk, vn, vs, vK, vL)⟩ : Nod)).bind fun n => stepN n (sk, ss, si)) = none := by
        intro h
        refine stepN_none ?_
        show (if sk = 0 ∧ vk = 5 then findK vK ss else if sk = 1 ∧ vk = 4 ∧ si < vL.length then si else -1) < 0
        rw [if_neg h.1, if_neg h.2]
        omega
      rcases hps with ⟨hk, rfl⟩ | ⟨hk, rfl⟩ | ⟨hk, rfl⟩ | ⟨hk, rfl⟩ | ⟨hk, rfl⟩ | ⟨hk, a, cap, rfl, hc⟩ | ⟨hk, b, ps, rfl, hR, hm, hc⟩ <;> simp only at hk
      · exact none_of _ rfl (kid_no ⟨by omega, by omega⟩) (partAt_none _ sk a1 _ p1 si w (nolist_nullPart _) (nomap_nullPart _) (.inr ⟨_, _, rfl⟩))
      · exact none_of _ rfl (kid_no ⟨by omega, by omega⟩) (partAt_none _ sk a1 _ p1 si w (nolist_unknownPart _) (nomap_unknownPart _) (.inr ⟨_, _, rfl⟩))
      · exact none_of _ rfl (kid_no ⟨by omega, by omega⟩) (partAt_none _ sk a1 _ p1 si w (nolist_boolPart _) (nomap_boolPart _) (.inr ⟨_, _, rfl⟩))
      · exact none_of _ rfl (kid_no ⟨by omega, by omega⟩) (partAt_none _ sk a1 _ p1 si w (nolist_intPart _) (nomap_intPart _) (.inr ⟨_, _, rfl⟩))
      · exact none_of _ rfl (kid_no ⟨by omega, by omega⟩) (partAt_none _ sk a1 _ p1 si w (nolist_textPart _) (nomap_textPart _) (.inr ⟨_, _, rfl⟩))
      · simp only at hc ⊢
        subst hk
        by_cases hi : sk = 1 ∧ si < (vL.length : Int)
        · obtain ⟨rfl, hi⟩ := hi
          rw [stpB_item] at hok
          simp only [Bool.and_eq_true, decide_eq_true_eq] at hok
          obtain ⟨k, rfl⟩ : ∃ k : Nat, si = k := ⟨si.toNat, by omega⟩
          have hkl' : k < vL.length := by omega
          rcases hc with h0 | ⟨b, off, rfl, hRb, hc⟩
          · rw [h0] at hkl'; simp at hkl'
          · obtain ⟨u, hu, hv⟩ := hc k hkl'
            obtain ⟨t, x, rfl⟩ := hv.shape
            refine (partAt_item _ vL.length cap b off rfl k hkl' t x a1 _ p1 w (by omega) hu).mono ?_
            rintro e w' ⟨rfl, hb⟩
            have hst : stepN ⟨d + 1, ((4 : Int), vn, vs, vK, vL)⟩ (1, ss, (k : Int)) = some ⟨d, vL[k]⟩ := stepN_some (d := d) (v := ((4 : Int), vn, vs, vK, vL)) hkl' (by
              show (if (1 : Int) = 0 ∧ (4 : Int) = 5 then findK vK ss else if (1 : Int) = 1 ∧ (4 : Int) = 4 ∧ (k : Int) < vL.length then (k : Int) else -1) = (k : Int)
              rw [if_neg (by omega), if_pos ⟨rfl, rfl, hi⟩])
            refine ⟨_, rfl, ?_, hb⟩
            show PNod _ w' _ (stepN ⟨d + 1, ((4 : Int), vn, vs, vK, vL)⟩ (1, ss, (k : Int)))
            rw [hst]
            exact ⟨PSeg.carry (fun b h => h) (fun b (h : b < N) => hb.block b (by omega)) d hv, dp + 1, hgs.2.2 k hkl', hkid k hkl'⟩
        · refine none_of _ rfl (kid_no ⟨by omega, fun h => hi ⟨h.1, h.2.2⟩⟩) (partAt_list a _ cap sk a1 _ p1 si w (fun h1 h2 => hi ⟨h1, h2⟩))
      · simp only at hc hm
        subst hk
        obtain ⟨hKL, hasc⟩ := shape_mapB hgs.2.1
        have hst : ∀ i, i < vL.length → stepB vK i = true := fun i hi => ascB_at hasc (by omega)
        by_cases hs0 : sk = 0
        · subst hs0
          have HA : ∀ o o' : Obj, Below w.heap.size w ((w.alloc o).alloc o') := fun o o' => ((Below.refl _ _).alloc (Nat.le_refl _) o).alloc (by simp) o'
          have hkI : kidI d ((5 : Int), vn, vs, vK, vL) (0, ss, si) = findK vK ss := if_pos ⟨rfl, rfl⟩
          obtain ⟨k, hkK, hke, hkn, hfk⟩ | ⟨hnone, hfk⟩ := find_cases vK ss
          · have hkL : k < vL.length := by omega
            obtain ⟨t, x, hpx⟩ := (hc k hkL).shape
            refine (partAt_key b a1 p1 ss si (.iface t x) w hS hSb' (fun o o' => by rw [← hpx]; exact look1_at ((hm.alloc o).alloc o') hst (fun i hi => (step_name (hst i hi)).1) hS.1 hkl hkL hkn hke) (.inr ⟨_, _, rfl⟩)).mono ?_
            rintro e w' ⟨rfl, hb⟩
            refine ⟨_, rfl, ?_, hb⟩
            show PNod _ w' _ (stepN ⟨d + 1, ((5 : Int), vn, vs, vK, vL)⟩ (0, ss, si))
            rw [stepN_some (d := d) (v := ((5 : Int), vn, vs, vK, vL)) hkL (by rw [hkI]; exact hfk)]
            have hv := hc k hkL
            rw [hpx] at hv
            exact ⟨PSeg.carry (fun b h => h) (fun b (h : b < N) => hb.block b (by omega)) d hv, dp + 1, hgs.2.2 k hkL, hkid k hkL⟩
          · refine (partAt_key b a1 p1 ss si .nilIface w hS hSb' (fun o o' => look1_none ((hm.alloc o).alloc o') hst (fun i hi => (step_name (hst i hi)).1) hS.1 hkl (fun i hi => hnone i (by omega))) (.inl rfl)).mono ?_
            rintro e w' ⟨rfl, hb⟩
            refine ⟨_, rfl, ?_, hb⟩
            show PNod _ w' _ (stepN ⟨d + 1, ((5 : Int), vn, vs, vK, vL)⟩ (0, ss, si))
            rw [stepN_none (d := d) (v := ((5 : Int), vn, vs, vK, vL)) (s := (0, ss, si)) (by rw [hkI, hfk]; omega)]
            rfl
        · exact none_of _ rfl (kid_no ⟨fun h => hs0 h.1, by omega⟩) (partAt_map b sk a1 _ p1 si w hs0)

theorem all_stp {l : List Stp} (h : pathB l = true) {k : Nat} (hk : k < l.length) : stpB l[k] = true := by
  simp only [pathB, Bool.and_eq_true, List.all_eq_true] at h
  exact h.2 _ (List.getElem_mem hk)
theorem stp_len {s : Stp} (h : stpB s = true) : s.2.1.length ≤ 8 := by
  obtain ⟨k, ss, i⟩ := s
  simp only [stpB, Bool.or_eq_true, Bool.and_eq_true, decide_eq_true_eq] at h
  rcases h with ⟨_, h, _⟩ | ⟨_, ⟨h, _⟩, _⟩
  · simp only [nameB, Bool.and_eq_true, decide_eq_true_eq] at h
    show ss.length ≤ 8
    omega
  · show ss.length ≤ 8
    omega

set_option maxHeartbeats 1600000 in
theorem partAlong_any (N : Nat) (p : Value) (o : Option Nod) (x : Value) (l : List Stp) (w : World) (hp : PNod (fun b => b < N) w p o) (hx : PthSeg (fun b => b < N) w x l) (hN : N ≤ w.heap.size) (hok : pathB l = true) :
    Calls Tryz.prog 27 #[p, x] w fun e w' => ∃ q, e = .returned q ∧ PNod (fun b => b < N) w' q (alongN o l) ∧ Below w.heap.size w w' := by
  have HC := hide' hx
  have HP := hide' hp
  have HO := hide' hok
  obtain ⟨a, cap, rfl, hlc, hcm, ka, hc⟩ := hx
  unfold maxLen at hcm
  have hpf : p = .nilIface ∨ ∃ t x, p = .iface t x := by
    rcases hp.form with ⟨_, h⟩ | ⟨_, t, x, _, h⟩
    · exact .inl h
    · exact .inr ⟨t, x, h⟩
  clear hc hp hok
  have go : ∀ q : Value, q = p → (q = .nilIface ∨ ∃ t x, q = .iface t x) → Calls Tryz.prog 27 #[q, .slice a l.length cap] w fun e w' => ∃ q, e = .returned q ∧ PNod (fun b => b < N) w' q (alongN o l) ∧ Below w.heap.size w w' := by
    intro q hq hqf
    have HQ : Hid (PNod (fun b => b < N) w q (alongN o (l.take 0))) := by subst hq; exact HP.out
    clear HP hq
    go_enter Tryz.func27, Tryz.ntmps27
    go_wp2
    go_loopw [0, 9] (fun r i wr => ∃ k : Nat, k ≤ l.length ∧ i = .int .i64 k ∧ Hid (PNod (fun b => b < N) wr r (alongN o (l.take k))) ∧ Below w.heap.size w wr) (fun _ i _ => l.length - (intOf i).toNat)
    case atStart => exact ⟨0, Nat.zero_le _, rfl, HQ, Below.refl _ _⟩
    case round =>
      obtain ⟨k, hk, rfl, hP, hbel⟩ := hrel
      have hsz := hbel.size
      by_cases hlt : k < l.length
      · have hlt' : (k : Int) < (l.length : Int) := by omega
        obtain ⟨b, off, c0, c1, c2, rfl, _, h3, hv⟩ := (HC.out.agree (agree_below (hbel.mono hN))).at hlt
        obtain ⟨q0, q1, q2⟩ := h3
        simp only at q0 q1 q2
        have HS : Hid (∀ o' : Obj, Calls Tryz.prog 42 #[u0, .agg #[c0, c1, c2]] (wr.alloc o') fun e w' => ∃ q, e = .returned q ∧ Hid (PNod (fun b => b < N) w' q (alongN o (l.take (k + 1)))) ∧ Below w.heap.size w w') := by
          intro o'
          have b0 : Below wr.heap.size wr (wr.alloc o') := (Below.refl _ _).alloc (Nat.le_refl _) o'
          refine (partAt_any N u0 _ c0 c1 c2 l[k] (wr.alloc o') (hP.out.carry (fun b h => h) (fun b (h : b < N) => b0.block b (by omega))) (hv.agree (agree_below (b0.mono (by omega)))) (by have := b0.size; omega) (all_stp HO.out hlt) (by have := stp_len (all_stp HO.out hlt); unfold maxLen; omega)).mono ?_
          rintro e w' ⟨q, rfl, h1, h2⟩
          exact ⟨q, rfl, by rw [alongN_take o l k hlt]; exact h1, Below.on (Below.on hbel b0) h2⟩
        have huf : u0 = .nilIface ∨ ∃ t x, u0 = .iface t x := by
          rcases hP.out.form with ⟨_, h⟩ | ⟨_, t, x, _, h⟩
          · exact .inl h
          · exact .inr ⟨t, x, h⟩
        obtain ⟨g0, gt, g2⟩ := hv
        obtain ⟨a2, cp2, g1, _⟩ := gt
        simp only at g0 g1 g2
        subst g0
        subst g1
        subst g2
        generalize (l[k]).1 = vk at *
        generalize (l[k]).2.1.length = vn at *
        generalize (l[k]).2.2 = vi at *
        clear hP
        rcases huf with rfl | ⟨t, x, rfl⟩
        all_goals
          go_wp2_with fail
          refine (HS.out _).mono ?_
          rintro e w1 ⟨q, rfl, hP1, B1⟩
          clear HS q0 q1 q2
          go_wp2
          go_roundw
          case rel => exact ⟨k + 1, by omega, by go_num, hP1, B1⟩
          case measure => simp [intOf]; omega
      · have hkn : k = l.length := by omega
        have hkn' : ¬ (k : Int) < (l.length : Int) := by omega
        have HF : Hid (PNod (fun b => b < N) wr u0 (alongN o l)) := by
          have := hP.out
          rw [hkn, List.take_length] at this
          exact this
        clear hkn hP
        go_wp2
        go_ret
        exact ⟨_, rfl, HF.out, hbel⟩
  exact go p rfl hpf
end Go.Proofs.YteafpgaefphkfaaGreatDoor
/-
  At of the program: what is at the path, on the call's own memory; no statement is proved here.
-/
namespace Go.Proofs.YteafpgaefphkfaaGreatDoor
open Go.RowKit Go.Shelf
set_option linter.unusedVariables false
set_option linter.unusedSimpArgs false

/-- A value of the call's own and true, or nothing and false. -/
def AnsN : Option Nod → World → Ending → World → Prop
  | some ⟨D + 1, a⟩, w, e, w' => Ans D a true w e w'
  | some ⟨0, _⟩, _, _, _ => False
  | none, w, e, w' => Ans 0 (vNil 0) false w e w'

/-- The end with nothing: the result's block holds nothing, and nothing old has turned. -/
theorem ansN_none {w wz : World} {G : Nat} {o : Option Nod} (ho : o = none) (hB : Below w.heap.size w wz) (hG : w.heap.size ≤ G) : AnsN o w (.returned (.tuple #[.agg #[.int .i64 0, .int .i64 0, .slice none 0 0, .slice none 0 0, .slice none 0 0], .bool false])) (set5 wz G 0 (.int .i64 0) (.int .i64 0) (.slice none 0 0) (.slice none 0 0) (.slice none 0 0)) := by
  subst ho
  have hB5 := set5_grown wz G 0 (.int .i64 0) (.int .i64 0) (.slice none 0 0) (.slice none 0 0) (.slice none 0 0)
  exact ⟨_, _, _, _, _, rfl, [], own_vNil 0 _, by simp, hB.grown hB5 hB.size (by intro j hj; simp at hj; omega)⟩

/-- The end with a value. -/
theorem ansN_some {w wz : World} {G : Nat} {o : Option Nod} {n : Nod} (ho : o = some n) {B : List Nat} {u0 u1 u2 u3 u4 : Value} (hO : VOwn wz n.1 (u0, u1, u2, u3, u4) n.2 B) (hBb : ∀ b ∈ B, w.heap.size ≤ b ∧ b < wz.heap.size ∧ b ≠ G) (hB : Below w.heap.size w wz) (hG : w.heap.size ≤ G) : AnsN o w (.returned (.tuple #[.agg #[u0, u1, u2, u3, u4], .bool true])) (set5 wz G 0 u0 u1 u2 u3 u4) := by
  subst ho
  obtain ⟨D, a⟩ := n
  cases D with
  | zero => exact hO.elim
  | succ D =>
    have hB5 := set5_grown wz G 0 u0 u1 u2 u3 u4
    have hsz := set5_size wz G 0 u0 u1 u2 u3 u4
    refine ⟨_, _, _, _, _, rfl, B, VOwn.agree (D + 1) hO fun b hb => hB5.block b (hBb b hb).2.1 (by have := (hBb b hb).2.2; simp; exact this), fun b hb => ?_, hB.grown hB5 hB.size (by intro j hj; simp at hj; omega)⟩
    have := hBb b hb
    exact ⟨this.1, by omega⟩

set_option maxHeartbeats 3200000 in
set_option maxRecDepth 100000 in
theorem impl_At_any (d N : Nat) (c0 c1 c2 c3 c4 : Value) (v : Vl d) (x : Value) (l : List Stp) (w : World) (hv : VSeg (fun b => b < N) w d (c0, c1, c2, c3, c4) v) (hx : PthSeg (fun b => b < N) w x l) (hN : N ≤ w.heap.size) :
    Calls Tryz.prog 10 #[.agg #[c0, c1, c2, c3, c4], x] w (AnsN (atN d v l) w) := by
  have HA : Hid (∀ o o' : Obj, Below w.heap.size w ((w.alloc o).alloc o') ∧ ((w.alloc o).alloc o').heap[w.heap.size + 1]? = some o') := fun o o' => ⟨((Below.refl _ _).alloc (Nat.le_refl _) o).alloc (by simp) o', by have := (MapKept.heap_alloc (w.alloc o) o').1; simpa using this⟩
  have HP : Hid (∀ o o' : Obj, Calls Tryz.prog 26 #[.agg #[c0, c1, c2, c3, c4]] ((w.alloc o).alloc o') (PartEnd d v ((w.alloc o).alloc o'))) := fun o o' => partOf_any d N c0 c1 c2 c3 c4 v _ (VSeg.agree (fun b (h : b < N) => (HA.out o o').1.block b (by omega)) d hv) (by simp; omega)
  have HX : Hid (∀ wx, Below w.heap.size w wx → PthSeg (fun b => b < N) wx x l) := fun wx hb => hx.agree (fun b (h : b < N) => hb.block b (by omega))
  obtain ⟨xa, xc, rfl, _⟩ := hx
  clear hv
  go_enter Tryz.func10, Tryz.ntmps10
  go_wp2_with fail
  refine (HP.out _ _).mono ?_
  rintro e w1 ⟨b1, ⟨p, rfl, hok, hp⟩ | ⟨rfl, hno⟩⟩
  · have hR1 : w1.heap[w.heap.size + 1]? = some (.cells #[.int .i64 0, .int .i64 0, .slice none 0 0, .slice none 0 0, .slice none 0 0] 29 (0, 0)) := (b1.block _ (by simp)).trans (HA.out _ _).2
    have hlt : w.heap.size + 1 < w1.heap.size := (Array.getElem?_eq_some_iff.1 hR1).1
    have HB1 := hide' (Below.on (HA.out _ _).1 b1)
    have HR1 := hide' hR1
    have HPs : Hid (PNod (fun b => b < w1.heap.size) w1 p (some ⟨d, v⟩)) := by
      have hok' := hok
      simp only [okB, Bool.and_eq_true, decide_eq_true_eq] at hok'
      exact ⟨PSeg.carry (fun b h => h.2) (fun b _ => rfl) d hp, 1, hok'.1, hok'.2⟩
    obtain ⟨pt, px, rfl⟩ := hp.shape
    have HO := hide' hok
    have HX1 := hide' (HX.out w1 HB1.out)
    have HPk := hide' (impl_PathOk_any N (.slice xa l.length xc) l w1 HX1.out (by omega))
    clear hR1 b1 hp hok HP
    go_wp2_with fail
    refine HPk.out.mono ?_
    rintro e w2 ⟨rfl, b2⟩
    have HB2 := hide' (Below.on HB1.out b2)
    have HR2 := hide' ((b2.block _ hlt).trans HR1.out)
    have hz2 := b2.size
    have hlt2 : w.heap.size + 1 < w2.heap.size := by omega
    by_cases hpk : pathB l = true
    · rw [hpk]
      have hAt : atN d v l = alongN (some ⟨d, v⟩) l := if_pos ⟨HO.out, hpk⟩
      have HAt := hide' hAt
      have HAl := hide' (partAlong_any w1.heap.size (.iface pt px) _ (.slice xa l.length xc) l w2 (HPs.out.carry (fun b h => h) (fun b h => b2.block b h)) ((HX.out w2 HB2.out).mono fun b (h : b < N) => by omega) b2.size hpk)
      clear hAt hpk HPk HPs HX1 b2 HR1 HB1
      go_wp2_with fail
      refine HAl.out.mono ?_
      rintro e w3 ⟨q, rfl, hq, b3⟩
      have HB3 := hide' (Below.on HB2.out b3)
      have HR3 := hide' ((b3.block _ hlt2).trans HR2.out)
      have hz3 := b3.size
      obtain ⟨r0, r1, r2, r3, r4, rf⟩ := row5 HR3.out
      have f0 := rf 0
      have f1 := rf 1
      have f2 := rf 2
      have f3 := rf 3
      have f4 := rf 4
      clear rf HAl HR2 b3
      rcases hq.form with ⟨ho, rfl⟩ | ⟨n, t, y, ho, rfl⟩
      · have HE := hide' (HAt.out.trans ho)
        clear hq HAt ho
        go_wp2_with fail
        have hfin := row5 (set5_heap (j := 0) (.int .i64 0) (.int .i64 0) (.slice none 0 0) (.slice none 0 0) (.slice none 0 0) HR3.out)
        simp only [set5, Nat.zero_add] at hfin
        obtain ⟨o0, o1, o2, o3, o4, _⟩ := hfin
        refine bodyPost_ret (v := .tuple #[.agg #[.int .i64 0, .int .i64 0, .slice none 0 0, .slice none 0 0, .slice none 0 0], .bool false]) (by simp [results, Tryz.results10, go_sem, o0, o1, o2, o3, o4]) rfl ?_
        exact ansN_none HE.out HB3.out (by omega)
      · have HE := hide' (HAt.out.trans ho)
        rw [ho] at hq
        obtain ⟨hps, dp, hg, hn⟩ := hq
        have HV := hide' (valueOf_any n.1 w1.heap.size _ n.2 dp w3 hps (by omega) hg hn)
        clear hps hg hn HAt ho r0 r1 r2 r3 r4 f0 f1 f2 f3 f4
        go_wp2_with fail
        refine HV.out.mono ?_
        rintro e w4 ⟨u0, u1, u2, u3, u4, rfl, B, hO, hB, hb4⟩
        obtain ⟨uk, un, s2, n2, x2, s3, n3, x3, s4, n4, x4, rfl, rfl, rfl, rfl, rfl⟩ := VOwn.form n.1 hO
        have HR4 := hide' ((hb4.block _ (by omega)).trans HR3.out)
        have HB4 := hide' (Below.on HB3.out hb4)
        have HO4 := hide' hO
        have HBb : Hid (∀ b ∈ B, w.heap.size ≤ b ∧ b < w4.heap.size ∧ b ≠ w.heap.size + 1) := fun b hb => by have := hB b hb; omega
        obtain ⟨r0, r1, r2, r3, r4, rf⟩ := row5 HR4.out
        have f0 := rf 0
        have f1 := rf 1
        have f2 := rf 2
        have f3 := rf 3
        have f4 := rf 4
        clear rf HV hO hB hb4 HR3 HB3
        go_wp2_with fail
        have hfin := row5 (set5_heap (j := 0) (.int .i64 uk) (.int .i64 un) (.slice s2 n2 x2) (.slice s3 n3 x3) (.slice s4 n4 x4) HR4.out)
        simp only [set5, Nat.zero_add] at hfin
        obtain ⟨o0, o1, o2, o3, o4, _⟩ := hfin
        refine bodyPost_ret (v := .tuple #[.agg #[.int .i64 uk, .int .i64 un, .slice s2 n2 x2, .slice s3 n3 x3, .slice s4 n4 x4], .bool true]) (by simp [results, Tryz.results10, go_sem, o0, o1, o2, o3, o4]) rfl ?_
        exact ansN_some HE.out HO4.out HBb.out HB4.out (by omega)
    · have hpk' : pathB l = false := by simpa using hpk
      rw [hpk']
      have HE : Hid (atN d v l = none) := if_neg fun h => hpk h.2
      obtain ⟨r0, r1, r2, r3, r4, rf⟩ := row5 HR2.out
      have f0 := rf 0
      have f1 := rf 1
      have f2 := rf 2
      have f3 := rf 3
      have f4 := rf 4
      clear rf hpk hpk' HPk HPs HX1 b2 HR1
      go_wp2_with fail
      have hfin := row5 (set5_heap (j := 0) (.int .i64 0) (.int .i64 0) (.slice none 0 0) (.slice none 0 0) (.slice none 0 0) HR2.out)
      simp only [set5, Nat.zero_add] at hfin
      obtain ⟨o0, o1, o2, o3, o4, _⟩ := hfin
      refine bodyPost_ret (v := .tuple #[.agg #[.int .i64 0, .int .i64 0, .slice none 0 0, .slice none 0 0, .slice none 0 0], .bool false]) (by simp [results, Tryz.results10, go_sem, o0, o1, o2, o3, o4]) rfl ?_
      exact ansN_none HE.out HB2.out (by omega)
  · have hR1 : w1.heap[w.heap.size + 1]? = some (.cells #[.int .i64 0, .int .i64 0, .slice none 0 0, .slice none 0 0, .slice none 0 0] 29 (0, 0)) := (b1.block _ (by simp)).trans (HA.out _ _).2
    have HB1 := hide' (Below.on (HA.out _ _).1 b1)
    have HR1 := hide' hR1
    have HE : Hid (atN d v l = none) := if_neg fun h => by rw [hno] at h; simp at h
    obtain ⟨r0, r1, r2, r3, r4, rf⟩ := row5 HR1.out
    have f0 := rf 0
    have f1 := rf 1
    have f2 := rf 2
    have f3 := rf 3
    have f4 := rf 4
    clear rf hR1 b1 hno HP
    go_wp2_with fail
    have hfin := row5 (set5_heap (j := 0) (.int .i64 0) (.int .i64 0) (.slice none 0 0) (.slice none 0 0) (.slice none 0 0) HR1.out)
    simp only [set5, Nat.zero_add] at hfin
    obtain ⟨o0, o1, o2, o3, o4, _⟩ := hfin
    refine bodyPost_ret (v := .tuple #[.agg #[.int .i64 0, .int .i64 0, .slice none 0 0, .slice none 0 0, .slice none 0 0], .bool false]) (by simp [results, Tryz.results10, go_sem, o0, o1, o2, o3, o4]) rfl ?_
    exact ansN_none HE.out HB1.out (by omega)
end Go.Proofs.YteafpgaefphkfaaGreatDoor
/-
  Paths: their order, their texts, and what is at one: plain mathematics.
-/
namespace Go.Proofs.YteafpgaefphkfaaGreatDoor
open Go.RowKit
set_option linter.unusedVariables false
set_option linter.unusedSimpArgs false

theorem numC_swap (a b : Int) : numC b a = - numC a b := by
  unfold numC
  split <;> split <;> first | omega | rfl
theorem numC_zero (a b : Int) : numC a b = 0 ↔ a = b := by
  unfold numC
  split
  · constructor <;> intro h <;> omega
  · split
    · constructor <;> intro h <;> omega
    · constructor <;> intro h <;> omega

theorem stpC_swap (s t : Stp) : stpC t s = - stpC s t := by
  unfold stpC
  by_cases h : s.1 = t.1
  · rw [if_neg (show ¬ t.1 ≠ s.1 from fun x => x h.symm), if_neg (show ¬ s.1 ≠ t.1 from fun x => x h)]
    by_cases h1 : s.1 = 1
    · rw [if_pos h1, if_pos (show t.1 = 1 by omega)]; exact numC_swap _ _
    · rw [if_neg h1, if_neg (show ¬ t.1 = 1 by omega)]; exact text_swap _ _
  · rw [if_pos (show t.1 ≠ s.1 from fun e => h e.symm), if_pos (show s.1 ≠ t.1 from h)]; exact numC_swap _ _

theorem pthC_swap : ∀ (l m : List Stp), pthC m l = - pthC l m
  | [], [] => rfl
  | [], _ :: _ => rfl
  | _ :: _, [] => rfl
  | s :: l, t :: m => by
    show (if stpC t s ≠ 0 then stpC t s else pthC m l) = - (if stpC s t ≠ 0 then stpC s t else pthC l m)
    rw [stpC_swap s t, pthC_swap l m]
    by_cases h : stpC s t = 0
    · simp [h]
    · rw [if_pos (by omega), if_pos h]

theorem name_byt {xs : List Int} (h : nameB xs = true) : ∀ x ∈ xs, Byt x := by
  intro x hx
  simp only [nameB, Bool.and_eq_true] at h
  have := List.all_eq_true.1 h.2 x hx
  simp only [letB, Bool.and_eq_true, decide_eq_true_eq] at this
  exact ⟨by omega, by omega⟩

theorem stp_cases {s : Stp} (h : stpB s = true) : (s.1 = 0 ∧ nameB s.2.1 = true ∧ s.2.2 = 0) ∨ (s.1 = 1 ∧ s.2.1 = [] ∧ 0 ≤ s.2.2 ∧ s.2.2 < 40) := by
  simp only [stpB, Bool.or_eq_true, Bool.and_eq_true, decide_eq_true_eq] at h
  rcases h with ⟨h1, h2, h3⟩ | ⟨h1, ⟨h2, h3⟩, h4⟩
  · exact .inl ⟨h1, h2, h3⟩
  · exact .inr ⟨h1, List.length_eq_zero_iff.1 h2, h3, h4⟩

theorem stpC_zero {s t : Stp} (hs : stpB s = true) (ht : stpB t = true) : stpC s t = 0 ↔ s = t := by
  obtain ⟨sk, ss, si⟩ := s
  obtain ⟨tk, ts, ti⟩ := t
  rcases stp_cases hs with ⟨a1, a2, a3⟩ | ⟨a1, a2, a3, a4⟩ <;> rcases stp_cases ht with ⟨b1, b2, b3⟩ | ⟨b1, b2, b3, b4⟩ <;> simp only at a1 a2 a3 b1 b2 b3 <;> subst a1 <;> subst b1
  · subst a3; subst b3
    have := text_zero (name_byt a2) (name_byt b2)
    simp [stpC, this]
  · simp [stpC, numC]
  · simp [stpC, numC]
  · subst a2; subst b2
    have := numC_zero si ti
    simp [stpC, this]

theorem pthC_zero : ∀ {l m : List Stp}, l.all stpB = true → m.all stpB = true → (pthC l m = 0 ↔ l = m)
  | [], [], _, _ => by simp [pthC]
  | [], _ :: _, _, _ => by simp [pthC]
  | _ :: _, [], _, _ => by simp [pthC]
  | s :: l, t :: m, h1, h2 => by
    simp only [List.all_cons, Bool.and_eq_true] at h1 h2
    have e := stpC_zero h1.1 h2.1
    have ih := pthC_zero h1.2 h2.2
    show (if stpC s t ≠ 0 then stpC s t else pthC l m) = 0 ↔ s :: l = t :: m
    by_cases h : stpC s t = 0
    · rw [if_neg (by simp [h]), ih, e.1 h]; simp
    · rw [if_pos h]
      refine ⟨fun x => absurd x h, fun x => ?_⟩
      simp only [List.cons.injEq] at x
      exact absurd (e.2 x.1) h

/-- A text of what p holds of, and then something that p does not hold of: it can be read in one way alone. -/
theorem run_split (p : Int → Bool) : ∀ {xs ys s t : List Int}, (∀ x ∈ xs, p x = true) → (∀ y ∈ ys, p y = true) → (∀ c r, s = c :: r → p c = false) → (∀ c r, t = c :: r → p c = false) → xs ++ s = ys ++ t → xs = ys ∧ s = t
  | [], [], s, t, _, _, _, _, h => ⟨rfl, h⟩
  | [], y :: ys, s, t, _, h2, h3, _, h => by
    have := h3 y (ys ++ t) h
    rw [h2 y (by simp)] at this
    simp at this
  | x :: xs, [], s, t, h1, _, _, h4, h => by
    have := h4 x (xs ++ s) h.symm
    rw [h1 x (by simp)] at this
    simp at this
  | x :: xs, y :: ys, s, t, h1, h2, h3, h4, h => by
    simp only [List.cons_append, List.cons.injEq] at h
    obtain ⟨e1, e2⟩ := run_split p (fun z hz => h1 z (by simp [hz])) (fun z hz => h2 z (by simp [hz])) h3 h4 h.2
    exact ⟨by rw [h.1, e1], e2⟩

/-- What follows a step: nothing, or a dot, or a bracket. -/
theorem flat_head : ∀ (l : List Stp) (c : Int) (r : List Int), (l.map stpT).flatten = c :: r → c = 46 ∨ c = 91
  | [], c, r, h => by simp at h
  | s :: l, c, r, h => by
    simp only [List.map_cons, List.flatten_cons, stpT] at h
    split at h
    · simp at h; exact .inl h.1.symm
    · simp at h; exact .inr h.1.symm

theorem decI_dig (u : Nat) : ∀ x ∈ decI u, 48 ≤ x ∧ x ≤ 57 := by
  intro x hx
  induction u using Nat.strongRecOn generalizing x with
  | ind u ih =>
    by_cases h : u < 10
    · rw [decI_small h] at hx; simp at hx; omega
    · rw [decI_big h] at hx
      simp at hx
      rcases hx with hx | hx
      · exact ih (u / 10) (by omega) x hx
      · omega
theorem decI_len1 (u : Nat) : 0 < (decI u).length := by
  by_cases h : u < 10
  · rw [decI_small h]; simp
  · rw [decI_big h]; simp
theorem decI_same : ∀ {u v : Nat}, u < 40 → v < 40 → decI u = decI v → u = v := by
  intro u v hu hv h
  by_cases h1 : u < 10 <;> by_cases h2 : v < 10
  · rw [decI_small h1, decI_small h2] at h; simp at h; omega
  · rw [decI_small h1, decI_big h2] at h
    have e := congrArg List.length h
    have := decI_len1 (v / 10)
    simp only [List.length_append, List.length_cons, List.length_nil] at e; omega
  · rw [decI_big h1, decI_small h2] at h
    have e := congrArg List.length h
    have := decI_len1 (u / 10)
    simp only [List.length_append, List.length_cons, List.length_nil] at e; omega
  · rw [decI_big h1, decI_big h2, decI_small (u := u / 10) (by omega), decI_small (u := v / 10) (by omega)] at h
    simp at h
    omega

theorem flat_inj : ∀ {l m : List Stp}, l.all stpB = true → m.all stpB = true → (l.map stpT).flatten = (m.map stpT).flatten → l = m
  | [], [], _, _, _ => rfl
  | [], t :: m, _, _, h => by
    simp only [List.map_nil, List.flatten_nil, List.map_cons, List.flatten_cons, stpT] at h
    split at h <;> simp at h
  | s :: l, [], _, _, h => by
    simp only [List.map_nil, List.flatten_nil, List.map_cons, List.flatten_cons, stpT] at h
    split at h <;> simp at h
  | s :: l, t :: m, h1, h2, h => by
    simp only [List.all_cons, Bool.and_eq_true] at h1 h2
    obtain ⟨sk, ss, si⟩ := s
    obtain ⟨tk, ts, ti⟩ := t
    have hl : ∀ (l : List Stp) c r, (l.map stpT).flatten = c :: r → letB c = false := fun l c r e => by
      rcases flat_head l c r e with rfl | rfl <;> rfl
    simp only [List.map_cons, List.flatten_cons] at h
    rcases stp_cases h1.1 with ⟨a1, a2, a3⟩ | ⟨a1, a2, a3, a4⟩ <;> rcases stp_cases h2.1 with ⟨b1, b2, b3⟩ | ⟨b1, b2, b3, b4⟩ <;> simp only at a1 a2 a3 b1 b2 b3 <;> subst a1 <;> subst b1
    · subst a3; subst b3
      simp only [stpT, if_true, List.cons_append, List.nil_append, List.cons.injEq, true_and] at h
      simp only [nameB, Bool.and_eq_true] at a2 b2
      obtain ⟨e1, e2⟩ := run_split letB (List.all_eq_true.1 a2.2) (List.all_eq_true.1 b2.2) (hl l) (hl m) h
      rw [e1, flat_inj h1.2 h2.2 e2]
    · simp [stpT] at h
    · simp [stpT] at h
    · subst a2; subst b2
      simp only [stpT, Int.reduceEq, if_false, List.cons_append, List.nil_append, List.append_assoc, List.cons.injEq, true_and] at h
      have hd : ∀ u, ∀ x ∈ decI u, (decide (48 ≤ x) && decide (x ≤ 57)) = true := fun u x hx => by have := decI_dig u x hx; simp [this]
      obtain ⟨e1, e2⟩ := run_split (fun x => decide (48 ≤ x) && decide (x ≤ 57)) (hd _) (hd _) (fun c r e => by simp at e; rw [← e.1]; rfl) (fun c r e => by simp at e; rw [← e.1]; rfl) h
      have a5 : si < 40 := a4
      have b5 : ti < 40 := b4
      have e3 := decI_same (by omega) (by omega) e1
      have e4 : si = ti := by omega
      simp only [List.cons.injEq, true_and] at e2
      rw [e4, flat_inj h1.2 h2.2 e2]

theorem path_all {l : List Stp} (h : pathB l = true) : l.all stpB = true := by
  simp only [pathB, Bool.and_eq_true] at h
  exact h.2
/-- Two paths that may be are in one place of the order just if they read alike. -/
theorem pth_same {l m : List Stp} (hl : pathB l = true) (hm : pathB m = true) : pthC l m = 0 ↔ pathT l = pathT m := by
  rw [pthC_zero (path_all hl) (path_all hm)]
  unfold pathT
  rw [if_pos hl, if_pos hm]
  exact ⟨fun e => by rw [e], flat_inj (path_all hl) (path_all hm)⟩

theorem path_take {l : List Stp} (h : pathB l = true) (n : Nat) : pathB (l.take n) = true := by
  simp only [pathB, Bool.and_eq_true, decide_eq_true_eq] at h ⊢
  refine ⟨by simp; omega, List.all_eq_true.2 fun x hx => List.all_eq_true.1 h.2 x (List.mem_of_mem_take hx)⟩
theorem path_drop {l : List Stp} (h : pathB l = true) (n : Nat) : pathB (l.drop n) = true := by
  simp only [pathB, Bool.and_eq_true, decide_eq_true_eq] at h ⊢
  refine ⟨by simp; omega, List.all_eq_true.2 fun x hx => List.all_eq_true.1 h.2 x (List.mem_of_mem_drop hx)⟩

theorem step_ok {n m : Nod} {s : Stp} (h : okB n.1 n.2 = true) (e : stepN n s = some m) : okB m.1 m.2 = true := by
  obtain ⟨d, v⟩ := n
  cases d with
  | zero => simp [stepN] at e
  | succ d =>
    simp only [stepN] at e
    split at e
    · simp at e
      subst e
      exact ok_kid h _ _
    · simp at e
theorem along_ok : ∀ {l : List Stp} {n m : Nod}, okB n.1 n.2 = true → alongN (some n) l = some m → okB m.1 m.2 = true
  | [], n, m, h, e => by simp [alongN] at e; subst e; exact h
  | s :: l, n, m, h, e => by
    have e' : alongN (stepN n s) l = some m := e
    cases hs : stepN n s with
    | none => rw [hs, alongN_none] at e'; simp at e'
    | some k => rw [hs] at e'; exact along_ok (step_ok h hs) e'

/-- What is at a path is what is at its beginning, and on from there. -/
theorem at_split {d : Nat} {v : Vl d} {l : List Stp} {m : Nod} (h : atN d v l = some m) (n : Nat) : ∃ k : Nod, atN d v (l.take n) = some k ∧ atN k.1 k.2 (l.drop n) = some m := by
  unfold atN at h
  split at h
  case isFalse => simp at h
  case isTrue hc =>
    rw [← List.take_append_drop n l, alongN_on] at h
    cases hk : alongN (some ⟨d, v⟩) (l.take n) with
    | none => rw [hk, alongN_none] at h; simp at h
    | some k =>
      rw [hk] at h
      have ho := along_ok (n := ⟨d, v⟩) hc.1 hk
      refine ⟨k, ?_, ?_⟩
      · unfold atN; rw [if_pos ⟨hc.1, path_take hc.2 n⟩, hk]
      · unfold atN; rw [if_pos ⟨ho, path_drop hc.2 n⟩]; exact h
theorem at_nil {d : Nat} {v : Vl d} (h : okB d v = true) : atN d v [] = some ⟨d, v⟩ := by
  unfold atN
  rw [if_pos ⟨h, rfl⟩]
  rfl
end Go.Proofs.YteafpgaefphkfaaGreatDoor
