/-
  Texts that a law leans on, one behind the other; no statement is proved here.
-/
import Derived.Test.YtpknhmegoldppaaPk8
import Derived.Test.YtpknhmegoldppaaPk2
import Derived.Test.YtpknhmegoldppaaPk3
import Derived.Lib.AppendStr
/-
  mapWith of the program, walked: it makes a map of names and parts.
-/
namespace Go.Proofs.Ytpknhmegoldppaa
open Go.RowKit
set_option linter.unusedVariables false
set_option linter.unusedSimpArgs false

theorem keyS (xs : List Int) (h : xs.length ≤ maxLen) : Go.keyOf Try.prog 9 (.string (strOf xs)) = some (.string (u8s xs)) :=
  WideMaps.keyOf_string_mk Try.underlying9 (by show (xs.map _).toArray.size ≤ maxLen; rw [List.size_toArray, List.length_map]; exact h)

/-- What mapWith leaves: a new map with these entries. -/
def MapWEnd (vK : List (List Int)) (ps : List Value) (m : Nat) (w : World) (e : Ending) (w' : World) : Prop :=
  ∃ b, e = .returned (.agg #[.map (some b)]) ∧ w.heap.size ≤ b ∧ b < w'.heap.size ∧ w'.ownsMap Try.prog 9 tokR b m (mapD vK ps m) ∧ Below w.heap.size w w'

set_option maxHeartbeats 4000000 in
theorem mapWith_of (N : Nat) (z : Value) (vK : List (List Int)) (m : Nat) (a : Option Addr) (cap : Nat) (ps : List Value) (w : World) (hz : KSeg (fun b => b < N) w z vK) (hN : N ≤ w.heap.size) (hkl : vK.length = m) (hlen : m ≤ 40)
    (hcell : m = 0 ∨ ∃ b off, a = some ⟨b, off, none⟩ ∧ b < w.heap.size ∧ ∀ i, i < m → w.cell? ⟨b, off + i, none⟩ = some (ps.getD i .nilIface)) (hsh : ∀ i, i < m → ∃ pt px, ps.getD i .nilIface = .iface pt px) :
    Calls Try.prog 69 #[z, .slice a m cap] w (MapWEnd vK ps m w) := by
  have HZ := hide' hz
  have HC := hide' hcell
  have HSh := hide' hsh
  have HKL := hide' hkl
  obtain ⟨a3, p3, rfl, hlc3, hcm3, ka3, _⟩ := hz
  unfold maxLen at hcm3
  have hmk := run_makeMapN 57 9 63 (m : Int) (w.alloc (.cells #[.map none] 59)) Try.underlying57
  have hM0 : ((w.alloc (.cells #[.map none] 59)).alloc (.map #[] 0)).ownsMap Try.prog 9 tokR (w.heap.size + 1) 0 (mapD vK ps 0) := by
    have := World.ownsMap_made (w.alloc (.cells #[.map none] 59)) Try.prog 9 tokR
    rw [World.size_alloc] at this
    exact this
  rw [World.size_alloc] at hmk
  rw [hkl] at HZ
  rw [hkl] at hlc3
  rw [hkl]
  clear hcell hsh hkl
  go_enter Try.func69, Try.ntmps69
  go_wp2
  go_loopw [13] (fun i wr => ∃ k : Nat, k ≤ m ∧ i = .int .i64 k ∧ wr.ownsMap Try.prog 9 tokR (w.heap.size + 1) k (mapD vK ps k) ∧ Hid (((w.alloc (.cells #[.map none] 59)).alloc (.map #[] 0)).grownBy wr (some (w.heap.size + 1)))) (fun i _ => m - (intOf i).toNat)
  case atStart => exact ⟨0, Nat.zero_le _, rfl, hM0, World.grownBy.refl _ _⟩
  case round =>
    obtain ⟨k, hk, rfl, hown, hgr⟩ := hrel
    clear hM0 hmk
    have hal1 : w.grownBy (w.alloc (.cells #[.map none] 59)) none := World.grownBy_alloc w _ none
    have hal2 : (w.alloc (.cells #[.map none] 59)).grownBy ((w.alloc (.cells #[.map none] 59)).alloc (.map #[] 0)) none := World.grownBy_alloc _ _ none
    have hlow2 : ∀ b, b < w.heap.size + 1 → wr.heap[b]? = (w.alloc (.cells #[.map none] 59)).heap[b]? := fun b hb => (hgr.out.block b (by simp; omega) (by simp; omega)).trans (hal2.block b (by simp; omega) (by simp))
    have hlow : ∀ b, b < w.heap.size → wr.heap[b]? = w.heap[b]? := fun b hb => (hlow2 b (by omega)).trans (hal1.block b hb (by simp))
    by_cases hlt : k < m
    · have hlt' : (k : Int) < (m : Int) := by omega
      have hit : ∃ b off, a = some ⟨b, off, none⟩ ∧ wr.cell? ⟨b, off + k, none⟩ = some (ps.getD k .nilIface) := by
        rcases HC.out with h0 | ⟨b, off, rfl, hb, hcc⟩
        · omega
        · exact ⟨b, off, rfl, (World.cell?_of_block (hlow b hb)).trans (hcc k hlt)⟩
      obtain ⟨ib, io, rfl, hitem⟩ := hit
      have hag : Agree (fun b => b < N) w wr := fun b hb => hlow b (by omega)
      have hKr : KSeg (fun b => b < N) wr (.slice a3 m p3) vK := HZ.out.agree hag
      have hltK : k < vK.length := by have := HKL.out; omega
      obtain ⟨kb, ko, rfl, hat⟩ := hKr.at hltK
      obtain ⟨s2, e2, hu, g2, m2⟩ := hat k hltK
      have hcv := conv_seg e2 g2
      have hkey := keyS (vK.getD k []) m2
      have HD : Hid (mapD vK ps (k + 1) = (mapD vK ps k).put (.string (u8s (vK.getD k []))) (.held (ps.getD k .nilIface))) := rfl
      obtain ⟨pt, px, hpx⟩ := HSh.out k hlt
      rw [hpx] at hitem HD
      generalize vK.getD k [] = ys at *
      clear hlow hlow2 hag hKr hat g2 hal1 hal2 hpx
      go_wp2_with (at_mapUpdate; refine wpList_mapUpdate_own _ rfl _ _ _ 57 rfl 9 63 (Maps.string_keyed Try.underlying9) Try.underlying57 tokR (w.heap.size + 1) k _ rfl hown (by unfold maxLen; omega) _ _ _ rfl rfl hkey _ [] rfl ?_; intro w3 hown3 hg3)
      have hown4 : w3.ownsMap Try.prog 9 tokR (w.heap.size + 1) (k + 1) (mapD vK ps (k + 1)) := by rw [HD.out]; exact hown3
      have hgr3 : Hid (((w.alloc (.cells #[.map none] 59)).alloc (.map #[] 0)).grownBy w3 (some (w.heap.size + 1))) := grownBy_trans hgr.out hg3
      clear hown3 hg3 hown hgr hkey hcv hitem hu
      go_wp2
      go_roundw
      case rel => exact ⟨k + 1, by omega, by go_num, hown4, hgr3⟩
      case measure => simp [intOf]; omega
    · have hkn : k = m := by omega
      have hlt' : ¬ (k : Int) < (m : Int) := by omega
      obtain rfl := hkn
      have hsz3 : w.heap.size + 2 ≤ wr.heap.size := by have := hgr.out.size; simpa using this
      have hR : wr.heap[w.heap.size]? = some (.cells #[.map none] 59 (0, 0)) := (hlow2 w.heap.size (by omega)).trans (MapKept.heap_alloc w _).1
      have rc : wr.cell? ⟨w.heap.size, 0, none⟩ = some (.map none) := by rw [cell_of_row wr w.heap.size 0 _ _ _ hR]; rfl
      have rf : wr.frozen? ⟨w.heap.size, 0, none⟩ = false := frozen_of_row _ _ _ _ _ hR
      have hBw : Below w.heap.size w wr := ⟨hgr.out.os, hgr.out.tape, hgr.out.output, by omega, fun b hb => hlow b hb⟩
      have HR := hide' hR
      have HBw := hide' hBw
      clear hlow hlow2 hal1 hal2 hgr hR hBw
      go_wp2_with fail
      have hrow := heap_setCell_same wr w.heap.size 0 _ _ (.map (some (w.heap.size + 1))) HR.out
      have hc := cell_of_row _ _ 0 _ _ _ hrow
      have hg := grown1 wr w.heap.size 0 (.map (some (w.heap.size + 1)))
      refine bodyPost_ret (v := .agg #[.map (some (w.heap.size + 1))]) (by simp [results, Try.results69, go_sem, hc]) rfl ?_
      exact ⟨w.heap.size + 1, rfl, by omega, by simp [World.setCell]; omega, hown.kept hg (by simp), HBw.out.grown hg (by omega) (by intro j hj; simp at hj; omega)⟩
end Go.Proofs.Ytpknhmegoldppaa
/-
  takeMap of the program, walked: it takes a map in.
-/
namespace Go.Proofs.Ytpknhmegoldppaa
open Go.RowKit
set_option linter.unusedVariables false
set_option linter.unusedSimpArgs false

theorem below_grown {w w' : World} (h : Below w.heap.size w w') (r : Option Nat) : w.grownBy w' r := ⟨h.os, h.tape, h.output, h.size, fun k hk _ => h.block k hk⟩

/-- What a good takeMap has brought about. -/
def TookMap (d : Nat) (vK : List (List Int)) (vL : List (Vl d)) (deep n q : Nat) (w w' : World) (p : Value) : Prop :=
  vK.length = vL.length ∧ ascB vK = true ∧ (∀ j (h : j < vL.length), goodB d vL[j] (deep + 1) = true) ∧ n + pre (partsV d) vL vL.length ≤ 40 ∧ Cnt w' q (n + pre (partsV d) vL vL.length) ∧
    PSeg (fun b => w.heap.size ≤ b ∧ b < w'.heap.size) w' (d + 1) p (5, 0, [], vK, vL)

/-- It is no map that may be. -/
def NoMap (d : Nat) (vK : List (List Int)) (vL : List (Vl d)) (deep n : Nat) : Prop := ¬ (vK.length = vL.length ∧ ascB vK = true ∧ (∀ j (h : j < vL.length), goodB d vL[j] (deep + 1) = true) ∧ n + pre (partsV d) vL vL.length ≤ 40)

theorem agree_box {N q : Nat} {w w' : World} {o : Obj} (h : (w.alloc o).grownBy w' (some q)) (hN : N ≤ q) (hq : q < w.heap.size) : Agree (fun b => b < N) w w' := fun b hb =>
  (h.block b (by simp; omega) (by simp; omega)).trans ((World.grownBy_alloc w o none).block b (by omega) (by simp))

set_option maxHeartbeats 4000000 in
theorem takeMap_of (d : Nat) (ih : TakeAt d) (N q n : Nat) (vk vn : Int) (a2 : Option Addr) (l2 p2 : Nat) (z x : Value) (vK : List (List Int)) (vL : List (Vl d)) (deep : Nat) (w : World) (hz : KSeg (fun b => b < N) w z vK) (hx : LSeg (fun b => b < N) w d x vL) (hNq : N ≤ q) (hq : q < w.heap.size) (hc : Cnt w q n) (hn : n ≤ 40) (hd : deep ≤ 5) :
    Calls Try.prog 64 #[.pointer (some ⟨q, 0, none⟩), .agg #[.int .i64 vk, .int .i64 vn, .slice a2 l2 p2, z, x], .int .i64 deep] w fun e w' =>
      w.grownBy w' (some q) ∧ ((∃ p, e = .returned (.tuple #[p, .bool true]) ∧ TookMap d vK vL deep n q w w' p) ∨ (e = .returned (.tuple #[.nilIface, .bool false]) ∧ NoMap d vK vL deep n)) := by
  have HX := hide' hx
  have HZ := hide' hz
  obtain ⟨a4, p4, rfl, hlc, hcm, ka, _⟩ := hx
  obtain ⟨a3, p3, rfl, hlc3, hcm3, ka3, _⟩ := hz
  unfold maxLen at hcm hcm3
  generalize hO : Obj.cells #[.int .i64 vk, .int .i64 vn, .slice a2 l2 p2, .slice a3 vK.length p3, .slice a4 vL.length p4] 30 = ob
  have HOb := hide' hO
  have gB : w.grownBy (w.alloc ob) (some q) := World.grownBy_alloc w ob (some q)
  have agB : Agree (fun b => b < N) w (w.alloc ob) := fun b hb => gB.block b (by omega) (by simp; omega)
  have HG := hide' gB
  by_cases hkl : vK.length = vL.length
  · have HA : Hid (Calls Try.prog 68 #[.slice a3 vK.length p3] (w.alloc ob) fun e w' => e = .returned (.bool (ascB vK)) ∧ w.alloc ob = w') := ascendingNames_any _ _ vK _ (HZ.out.agree agB)
    have HT : Hid (Calls Try.prog 63 #[.pointer (some ⟨q, 0, none⟩), .slice a4 vL.length p4, .int .i64 ((deep : Int) + 1)] (w.alloc ob) fun e w' =>
        (w.alloc ob).grownBy w' (some q) ∧ ((∃ y, e = .returned (.tuple #[y, .bool true]) ∧ TookAll d vL (deep + 1) n q (w.alloc ob) w' y) ∨ (e = .returned (.tuple #[.slice none 0 0, .bool false]) ∧ ¬ ((∀ j (h : j < vL.length), goodB d vL[j] (deep + 1) = true) ∧ n + pre (partsV d) vL vL.length ≤ 40)))) := by
      have := takeAll_of d ih N q n _ vL (deep + 1) (w.alloc ob) (HX.out.agree agB) hNq (by simp; omega) (hc.keep (World.grownBy_alloc w ob none) (by simp)) hn (by omega)
      rw [Int.natCast_add] at this
      exact this
    have HKL := hide' hkl
    rw [hkl] at HA hlc3
    rw [hkl] at hO HOb
    rw [hkl] at HZ
    clear ih hc agB gB
    by_cases has : ascB vK = true
    · rw [has] at HA
      have HAs := hide' has
      clear has
      rw [hkl]
      subst hO
      clear hkl
      go_enter Try.func64, Try.ntmps64
      go_wp2_with fail
      refine HA.out.mono ?_
      rintro e w1 ⟨rfl, e1⟩
      obtain rfl := e1
      go_wp2_with fail
      refine HT.out.mono ?_
      rintro e w1 ⟨hg1, hcase⟩
      rcases hcase with ⟨y, rfl, htook⟩ | ⟨rfl, hbad⟩
      · obtain ⟨hgood, hle, hcnt, a, cap, ps, rfl, hcell, hpp⟩ := htook
        have hlen : vL.length ≤ 40 := by have := pre_ge d vL vL.length (Nat.le_refl _); omega
        have hq1 : q < w1.heap.size := by have := hg1.size; simp at this; omega
        have hbx : w.heap.size < w1.heap.size := by have := hg1.size; simp at this; omega
        have HGo := hide' hgood
        have HLe := hide' hle
        have HCn := hide' hcnt
        have HG1 := hide' hg1
        have hag : Agree (fun b => b < N) w w1 := fun b hb => agree_box hg1 hNq hq b hb
        have hrow : w1.heap[w.heap.size]? = some (.cells #[.int .i64 vk, .int .i64 vn, .slice a2 l2 p2, .slice a3 vL.length p3, .slice a4 vL.length p4] 30 (0, 0)) :=
          (hg1.block w.heap.size (by simp) (by simp; omega)).trans (MapKept.heap_alloc w _).1
        obtain ⟨y0, y1, y2, y3, y4, _⟩ := row5 hrow
        have HMW := hide' (mapWith_of N _ vK vL.length a cap ps w1 (HZ.out.agree hag) (by omega) HKL.out hlen (by
          rcases hcell with h0 | ⟨b, rfl, _, hb, hcc⟩
          · exact .inl (by rw [h0]; rfl)
          · exact .inr ⟨b, 0, rfl, hb, fun i hi => by rw [Nat.zero_add]; exact hcc i hi⟩) (fun i hi => (hpp i hi).shape))
        have HPp := hide' hpp
        clear hgood hle hcnt hcell hpp HA HT hag hrow hg1
        go_wp2_with fail
        refine HMW.out.mono ?_
        rintro e w2 ⟨mb, rfl, hmb, hmb2, hown, hB2⟩
        have hsz1 : w.heap.size + 1 ≤ w1.heap.size := by omega
        have hP : PSeg (fun b => w.heap.size ≤ b ∧ b < w2.heap.size) w2 (d + 1) (.iface 59 (.agg #[.map (some mb)])) (5, 0, [], vK, vL) := by
          refine .inr (.inr (.inr (.inr (.inr (.inr ⟨rfl, mb, ps, rfl, ⟨by omega, by omega⟩, hown.mono (n' := 64) (by omega), fun i hi => ?_⟩)))))
          refine PSeg.carry (fun b hb => ⟨?_, ?_⟩) (fun b hb => hB2.block b hb.2) d (HPp.out i hi)
          · have := hb.1
            simp at this
            omega
          · have := hb.2
            have := hB2.size
            omega
        have hcn : Cnt w2 q (n + pre (partsV d) vL vL.length) := (hB2.block q hq1).trans HCn.out
        have hgf : w.grownBy w2 (some q) := grownBy_fresh (grownBy_trans HG.out HG1.out) (below_grown hB2 none) (by simp)
        have HF : Hid (TookMap d vK vL deep n q w w2 (.iface 59 (.agg #[.map (some mb)]))) := ⟨HKL.out, HAs.out, HGo.out, HLe.out, hcn, hP⟩
        clear hP hcn hown hB2
        go_wp2
        go_ret2
        exact ⟨hgf, .inl ⟨_, rfl, HF.out⟩⟩
      · have hgf := grownBy_trans HG.out hg1
        have hno : NoMap d vK vL deep n := fun h => hbad h.2.2
        go_wp2
        go_ret2
        exact ⟨hgf, .inr ⟨rfl, hno⟩⟩
    · have has' : ascB vK = false := by simpa using has
      rw [has'] at HA
      have hno : NoMap d vK vL deep n := fun h => has h.2.1
      have Hno := hide' hno
      clear has has' hno
      rw [hkl]
      subst hO
      clear hkl HT
      go_enter Try.func64, Try.ntmps64
      go_wp2_with fail
      refine HA.out.mono ?_
      rintro e w1 ⟨rfl, e1⟩
      obtain rfl := e1
      go_wp2
      go_ret2
      exact ⟨HG.out, .inr ⟨rfl, Hno.out⟩⟩
  · have hne : ¬ (vK.length : Int) = (vL.length : Int) := by omega
    have Hno : Hid (NoMap d vK vL deep n) := fun h => hkl h.1
    subst hO
    clear ih hkl agB gB
    go_enter Try.func64, Try.ntmps64
    go_wp2
    go_ret2
    exact ⟨HG.out, .inr ⟨rfl, Hno.out⟩⟩
end Go.Proofs.Ytpknhmegoldppaa
/-
  The look-up of a key in a map of parts, as the program runs it; no statement is proved here.
-/
namespace Go.Proofs.Ytpknhmegoldppaa
open Go.RowKit
set_option linter.unusedVariables false
set_option linter.unusedSimpArgs false

theorem zero_part (w : World) : (zeroValue 63).run Try.prog w = .ok .nilIface w := by kernel_rfl

theorem look_at {wx : World} {b n k : Nat} {ks : List (List Int)} {ps : List Value} {key : List Int} (hm : wx.ownsMap Try.prog 9 tokR b 64 (mapD ks ps n)) (ha : ∀ i, i < n → stepB ks i = true) (hb : ∀ i, i < n → ∀ x ∈ ks.getD i [], Byt x) (hy : ∀ y ∈ key, Byt y) (hl : key.length ≤ maxLen)
    (hk : k < n) (hn : ∀ i, i < k → ks.getD i [] ≠ key) (he : ks.getD k [] = key) : (Instr.lookup 57 (.map (some b)) (.string (strOf key)) true).run Try.prog wx = .ok (.tuple #[ps.getD k .nilIface, .bool true]) wx := by
  rw [mapD_list ks ps n ha] at hm
  obtain ⟨v, q, hrun, hv⟩ := hm.look_ok (Maps.string_keyed Try.underlying9) Try.underlying57 (zero_part wx) (zd := .held .nilIface) (zp := []) rfl (keyS key hl)
  obtain ⟨h1, h2⟩ := look_yes (ps := ps) hy hb hk hn he (.held .nilIface)
  rw [h1] at hrun
  rw [h2] at hv
  simp only [tokR, Option.some.injEq, Prod.mk.injEq, DataW.held.injEq] at hv
  rw [← hv.1]
  exact hrun

theorem look_none {wx : World} {b n : Nat} {ks : List (List Int)} {ps : List Value} {key : List Int} (hm : wx.ownsMap Try.prog 9 tokR b 64 (mapD ks ps n)) (ha : ∀ i, i < n → stepB ks i = true) (hb : ∀ i, i < n → ∀ x ∈ ks.getD i [], Byt x) (hy : ∀ y ∈ key, Byt y) (hl : key.length ≤ maxLen)
    (hn : ∀ i, i < n → ks.getD i [] ≠ key) : (Instr.lookup 57 (.map (some b)) (.string (strOf key)) true).run Try.prog wx = .ok (.tuple #[.nilIface, .bool false]) wx := by
  rw [mapD_list ks ps n ha] at hm
  obtain ⟨v, q, hrun, hv⟩ := hm.look_ok (Maps.string_keyed Try.underlying9) Try.underlying57 (zero_part wx) (zd := .held .nilIface) (zp := []) rfl (keyS key hl)
  obtain ⟨h1, h2⟩ := look_no (ps := ps) hy hb hn (.held .nilIface)
  rw [h1] at hrun
  rw [h2] at hv
  simp only [tokR, Option.some.injEq, Prod.mk.injEq, DataW.held.injEq] at hv
  rw [hv.1] at hrun
  exact hrun
end Go.Proofs.Ytpknhmegoldppaa
/-
  Which type a part is: the type assertions of a part, at each type.
-/
namespace Go.Proofs.Ytpknhmegoldppaa
open Go.RowKit
set_option linter.unusedVariables false
set_option linter.unusedSimpArgs false

theorem nobool_nullPart (x : Value) (w : World) : (Instr.typeAssert (.iface 105 x) 63 88 true).run Try.prog w = .ok (.tuple #[.agg #[.int .i64 0], .bool false]) w := by kernel_rfl
theorem nobool_unknownPart (x : Value) (w : World) : (Instr.typeAssert (.iface 106 x) 63 88 true).run Try.prog w = .ok (.tuple #[.agg #[.int .i64 0], .bool false]) w := by kernel_rfl
theorem nobool_intPart (x : Value) (w : World) : (Instr.typeAssert (.iface 89 x) 63 88 true).run Try.prog w = .ok (.tuple #[.agg #[.int .i64 0], .bool false]) w := by kernel_rfl
theorem nobool_textPart (x : Value) (w : World) : (Instr.typeAssert (.iface 91 x) 63 88 true).run Try.prog w = .ok (.tuple #[.agg #[.int .i64 0], .bool false]) w := by kernel_rfl
theorem nobool_listPart (x : Value) (w : World) : (Instr.typeAssert (.iface 94 x) 63 88 true).run Try.prog w = .ok (.tuple #[.agg #[.int .i64 0], .bool false]) w := by kernel_rfl
theorem nobool_mapPart (x : Value) (w : World) : (Instr.typeAssert (.iface 59 x) 63 88 true).run Try.prog w = .ok (.tuple #[.agg #[.int .i64 0], .bool false]) w := by kernel_rfl
theorem noint_nullPart (x : Value) (w : World) : (Instr.typeAssert (.iface 105 x) 63 89 true).run Try.prog w = .ok (.tuple #[.agg #[.int .i64 0], .bool false]) w := by kernel_rfl
theorem noint_unknownPart (x : Value) (w : World) : (Instr.typeAssert (.iface 106 x) 63 89 true).run Try.prog w = .ok (.tuple #[.agg #[.int .i64 0], .bool false]) w := by kernel_rfl
theorem noint_textPart (x : Value) (w : World) : (Instr.typeAssert (.iface 91 x) 63 89 true).run Try.prog w = .ok (.tuple #[.agg #[.int .i64 0], .bool false]) w := by kernel_rfl
theorem noint_listPart (x : Value) (w : World) : (Instr.typeAssert (.iface 94 x) 63 89 true).run Try.prog w = .ok (.tuple #[.agg #[.int .i64 0], .bool false]) w := by kernel_rfl
theorem noint_mapPart (x : Value) (w : World) : (Instr.typeAssert (.iface 59 x) 63 89 true).run Try.prog w = .ok (.tuple #[.agg #[.int .i64 0], .bool false]) w := by kernel_rfl
theorem notext_nullPart (x : Value) (w : World) : (Instr.typeAssert (.iface 105 x) 63 91 true).run Try.prog w = .ok (.tuple #[.agg #[.string ⟨#[]⟩], .bool false]) w := by kernel_rfl
theorem notext_unknownPart (x : Value) (w : World) : (Instr.typeAssert (.iface 106 x) 63 91 true).run Try.prog w = .ok (.tuple #[.agg #[.string ⟨#[]⟩], .bool false]) w := by kernel_rfl
theorem notext_listPart (x : Value) (w : World) : (Instr.typeAssert (.iface 94 x) 63 91 true).run Try.prog w = .ok (.tuple #[.agg #[.string ⟨#[]⟩], .bool false]) w := by kernel_rfl
theorem notext_mapPart (x : Value) (w : World) : (Instr.typeAssert (.iface 59 x) 63 91 true).run Try.prog w = .ok (.tuple #[.agg #[.string ⟨#[]⟩], .bool false]) w := by kernel_rfl
theorem nolist_nullPart (x : Value) (w : World) : (Instr.typeAssert (.iface 105 x) 63 94 true).run Try.prog w = .ok (.tuple #[.agg #[.slice none 0 0], .bool false]) w := by kernel_rfl
theorem nolist_unknownPart (x : Value) (w : World) : (Instr.typeAssert (.iface 106 x) 63 94 true).run Try.prog w = .ok (.tuple #[.agg #[.slice none 0 0], .bool false]) w := by kernel_rfl
theorem nolist_mapPart (x : Value) (w : World) : (Instr.typeAssert (.iface 59 x) 63 94 true).run Try.prog w = .ok (.tuple #[.agg #[.slice none 0 0], .bool false]) w := by kernel_rfl
theorem nomap_nullPart (x : Value) (w : World) : (Instr.typeAssert (.iface 105 x) 63 59 true).run Try.prog w = .ok (.tuple #[.agg #[.map none], .bool false]) w := by kernel_rfl
theorem nomap_unknownPart (x : Value) (w : World) : (Instr.typeAssert (.iface 106 x) 63 59 true).run Try.prog w = .ok (.tuple #[.agg #[.map none], .bool false]) w := by kernel_rfl
theorem is_boolPart (x : Value) (w : World) : (Instr.typeAssert (.iface 88 x) 63 88 true).run Try.prog w = .ok (.tuple #[x, .bool true]) w := by kernel_rfl
theorem is_intPart (x : Value) (w : World) : (Instr.typeAssert (.iface 89 x) 63 89 true).run Try.prog w = .ok (.tuple #[x, .bool true]) w := by kernel_rfl
theorem is_textPart (x : Value) (w : World) : (Instr.typeAssert (.iface 91 x) 63 91 true).run Try.prog w = .ok (.tuple #[x, .bool true]) w := by kernel_rfl
theorem is_listPart (x : Value) (w : World) : (Instr.typeAssert (.iface 94 x) 63 94 true).run Try.prog w = .ok (.tuple #[x, .bool true]) w := by kernel_rfl
theorem is_mapPart (x : Value) (w : World) : (Instr.typeAssert (.iface 59 x) 63 59 true).run Try.prog w = .ok (.tuple #[x, .bool true]) w := by kernel_rfl

end Go.Proofs.Ytpknhmegoldppaa
/-
  The kind of a part: a method of an interface value, by the value's own type.
-/
namespace Go.Proofs.Ytpknhmegoldppaa
open Go.RowKit Go.Shelf
set_option linter.unusedVariables false
set_option linter.unusedSimpArgs false

theorem meth_nullPart (x : Value) (w : World) : (method 265 105 x "loop.example/g00407/impl.kind").run Try.prog w = .ok (122, x) w := by kernel_rfl
theorem calls_nullPart (args : Array Value) (w : World) : (callFunc 122 args).run Try.prog w = .ok (.enter 122 args) w := enters_of Try.func122 (by kernel_rfl) rfl args w
theorem meth_unknownPart (x : Value) (w : World) : (method 265 106 x "loop.example/g00407/impl.kind").run Try.prog w = .ok (123, x) w := by kernel_rfl
theorem calls_unknownPart (args : Array Value) (w : World) : (callFunc 123 args).run Try.prog w = .ok (.enter 123 args) w := enters_of Try.func123 (by kernel_rfl) rfl args w
theorem meth_boolPart (x : Value) (w : World) : (method 265 88 x "loop.example/g00407/impl.kind").run Try.prog w = .ok (118, x) w := by kernel_rfl
theorem calls_boolPart (args : Array Value) (w : World) : (callFunc 118 args).run Try.prog w = .ok (.enter 118 args) w := enters_of Try.func118 (by kernel_rfl) rfl args w
theorem meth_intPart (x : Value) (w : World) : (method 265 89 x "loop.example/g00407/impl.kind").run Try.prog w = .ok (119, x) w := by kernel_rfl
theorem calls_intPart (args : Array Value) (w : World) : (callFunc 119 args).run Try.prog w = .ok (.enter 119 args) w := enters_of Try.func119 (by kernel_rfl) rfl args w
theorem meth_textPart (x : Value) (w : World) : (method 265 91 x "loop.example/g00407/impl.kind").run Try.prog w = .ok (120, x) w := by kernel_rfl
theorem calls_textPart (args : Array Value) (w : World) : (callFunc 120 args).run Try.prog w = .ok (.enter 120 args) w := enters_of Try.func120 (by kernel_rfl) rfl args w
theorem meth_listPart (x : Value) (w : World) : (method 265 94 x "loop.example/g00407/impl.kind").run Try.prog w = .ok (121, x) w := by kernel_rfl
theorem calls_listPart (args : Array Value) (w : World) : (callFunc 121 args).run Try.prog w = .ok (.enter 121 args) w := enters_of Try.func121 (by kernel_rfl) rfl args w
theorem meth_mapPart (x : Value) (w : World) : (method 265 59 x "loop.example/g00407/impl.kind").run Try.prog w = .ok (117, x) w := by kernel_rfl
theorem calls_mapPart (args : Array Value) (w : World) : (callFunc 117 args).run Try.prog w = .ok (.enter 117 args) w := enters_of Try.func117 (by kernel_rfl) rfl args w

set_option maxHeartbeats 800000 in
theorem kind_nullPart (w : World) : Calls Try.prog 122 #[.agg #[]] w fun e w' => e = .returned (.int .i64 0) ∧ Below w.heap.size w w' := by
  have Hb : Hid (∀ o : Obj, Below w.heap.size w (w.alloc o)) := fun o => (Below.refl _ _).alloc (Nat.le_refl _) o
  go_enter Try.func122, Try.ntmps122
  go_wp2
  go_ret
  exact ⟨rfl, Hb.out _⟩
set_option maxHeartbeats 800000 in
theorem kind_unknownPart (w : World) : Calls Try.prog 123 #[.agg #[]] w fun e w' => e = .returned (.int .i64 6) ∧ Below w.heap.size w w' := by
  have Hb : Hid (∀ o : Obj, Below w.heap.size w (w.alloc o)) := fun o => (Below.refl _ _).alloc (Nat.le_refl _) o
  go_enter Try.func123, Try.ntmps123
  go_wp2
  go_ret
  exact ⟨rfl, Hb.out _⟩
set_option maxHeartbeats 800000 in
theorem kind_boolPart (n : Int) (w : World) : Calls Try.prog 118 #[.agg #[.int .i64 n]] w fun e w' => e = .returned (.int .i64 1) ∧ Below w.heap.size w w' := by
  have Hb : Hid (∀ o : Obj, Below w.heap.size w (w.alloc o)) := fun o => (Below.refl _ _).alloc (Nat.le_refl _) o
  go_enter Try.func118, Try.ntmps118
  go_wp2
  go_ret
  exact ⟨rfl, Hb.out _⟩
set_option maxHeartbeats 800000 in
theorem kind_intPart (n : Int) (w : World) : Calls Try.prog 119 #[.agg #[.int .i64 n]] w fun e w' => e = .returned (.int .i64 2) ∧ Below w.heap.size w w' := by
  have Hb : Hid (∀ o : Obj, Below w.heap.size w (w.alloc o)) := fun o => (Below.refl _ _).alloc (Nat.le_refl _) o
  go_enter Try.func119, Try.ntmps119
  go_wp2
  go_ret
  exact ⟨rfl, Hb.out _⟩
set_option maxHeartbeats 800000 in
theorem kind_textPart (s : ByteArray) (w : World) : Calls Try.prog 120 #[.agg #[.string s]] w fun e w' => e = .returned (.int .i64 3) ∧ Below w.heap.size w w' := by
  have Hb : Hid (∀ o : Obj, Below w.heap.size w (w.alloc o)) := fun o => (Below.refl _ _).alloc (Nat.le_refl _) o
  go_enter Try.func120, Try.ntmps120
  go_wp2
  go_ret
  exact ⟨rfl, Hb.out _⟩
set_option maxHeartbeats 800000 in
theorem kind_listPart (a : Option Addr) (n c : Nat) (w : World) : Calls Try.prog 121 #[.agg #[.slice a n c]] w fun e w' => e = .returned (.int .i64 4) ∧ Below w.heap.size w w' := by
  have Hb : Hid (∀ o : Obj, Below w.heap.size w (w.alloc o)) := fun o => (Below.refl _ _).alloc (Nat.le_refl _) o
  go_enter Try.func121, Try.ntmps121
  go_wp2
  go_ret
  exact ⟨rfl, Hb.out _⟩
set_option maxHeartbeats 800000 in
theorem kind_mapPart (b : Nat) (w : World) : Calls Try.prog 117 #[.agg #[.map (some b)]] w fun e w' => e = .returned (.int .i64 5) ∧ Below w.heap.size w w' := by
  have Hb : Hid (∀ o : Obj, Below w.heap.size w (w.alloc o)) := fun o => (Below.refl _ _).alloc (Nat.le_refl _) o
  go_enter Try.func117, Try.ntmps117
  go_wp2
  go_ret
  exact ⟨rfl, Hb.out _⟩

/-- What a call of kind leans on. -/
def KindOf (pt : TypeId) (px : Value) (vk : Int) : Prop := ∃ f : Nat, (∀ w, (method 265 pt px "loop.example/g00407/impl.kind").run Try.prog w = .ok (f, px) w) ∧ (∀ args w, (callFunc f args).run Try.prog w = .ok (.enter f args) w) ∧ ∀ w, Calls Try.prog f #[px] w fun e w' => e = .returned (.int .i64 vk) ∧ Below w.heap.size w w'

theorem kind_of {R : Nat → Prop} {w : World} {d : Nat} {pt : TypeId} {px : Value} {v : Vl (d + 1)} (h : PSeg R w (d + 1) (.iface pt px) v) : KindOf pt px v.1 := by
  rcases h with ⟨hk, e⟩ | ⟨hk, e⟩ | ⟨hk, e⟩ | ⟨hk, e⟩ | ⟨hk, e⟩ | ⟨hk, a, cap, e, _⟩ | ⟨hk, b, ps, e, _⟩ <;>
    simp only [Value.iface.injEq] at e <;> obtain ⟨rfl, rfl⟩ := e <;> rw [hk]
  · exact ⟨_, meth_nullPart _, calls_nullPart, kind_nullPart⟩
  · exact ⟨_, meth_unknownPart _, calls_unknownPart, kind_unknownPart⟩
  · exact ⟨_, meth_boolPart _, calls_boolPart, kind_boolPart _⟩
  · exact ⟨_, meth_intPart _, calls_intPart, kind_intPart _⟩
  · exact ⟨_, meth_textPart _, calls_textPart, kind_textPart _⟩
  · exact ⟨_, meth_listPart _, calls_listPart, kind_listPart _ _ _⟩
  · exact ⟨_, meth_mapPart _, calls_mapPart, kind_mapPart _⟩
end Go.Proofs.Ytpknhmegoldppaa
/-
  What a call that makes a value leaves; a block of five cells, read behind new blocks.
-/
namespace Go.Proofs.Ytpknhmegoldppaa
open Go.RowKit
set_option linter.unusedVariables false
set_option linter.unusedSimpArgs false

/-- A block of five, read behind a new block. -/
theorem box_later {w : World} {g : Nat} {T : TypeId} {c0 c1 c2 c3 c4 : Value} (h : w.heap[g]? = some (.cells #[c0, c1, c2, c3, c4] T (0, 0))) :
    (∀ o, (w.alloc o).cell? ⟨g, 0, none⟩ = some c0) ∧ (∀ o, (w.alloc o).cell? ⟨g, 1, none⟩ = some c1) ∧ (∀ o, (w.alloc o).cell? ⟨g, 2, none⟩ = some c2) ∧ (∀ o, (w.alloc o).cell? ⟨g, 3, none⟩ = some c3) ∧ (∀ o, (w.alloc o).cell? ⟨g, 4, none⟩ = some c4) ∧ ∀ o j, (w.alloc o).frozen? ⟨g, j, none⟩ = false := by
  have hr : ∀ o, (w.alloc o).heap[g]? = some (.cells #[c0, c1, c2, c3, c4] T (0, 0)) := fun o => (Below.heap_alloc w o g (Array.getElem?_eq_some_iff.1 h).1).trans h
  exact ⟨fun o => (row5 (hr o)).1, fun o => (row5 (hr o)).2.1, fun o => (row5 (hr o)).2.2.1, fun o => (row5 (hr o)).2.2.2.1, fun o => (row5 (hr o)).2.2.2.2.1, fun o j => (row5 (hr o)).2.2.2.2.2 j⟩

/-- What valueOf leaves. -/
def ValEnd (d : Nat) (v : Vl d) (w : World) (e : Ending) (w' : World) : Prop :=
  ∃ u0 u1 u2 u3 u4, e = .returned (.agg #[u0, u1, u2, u3, u4]) ∧ ∃ B, VOwn w' d (u0, u1, u2, u3, u4) v B ∧ (∀ b ∈ B, w.heap.size ≤ b ∧ b < w'.heap.size) ∧ Below w.heap.size w w'

/-- .. and behind two. -/
theorem box_later2 {w : World} {g : Nat} {T : TypeId} {c0 c1 c2 c3 c4 : Value} (h : w.heap[g]? = some (.cells #[c0, c1, c2, c3, c4] T (0, 0))) :
    (∀ o o', ((w.alloc o).alloc o').cell? ⟨g, 0, none⟩ = some c0) ∧ (∀ o o', ((w.alloc o).alloc o').cell? ⟨g, 1, none⟩ = some c1) ∧ (∀ o o', ((w.alloc o).alloc o').cell? ⟨g, 2, none⟩ = some c2) ∧ (∀ o o', ((w.alloc o).alloc o').cell? ⟨g, 3, none⟩ = some c3) ∧ (∀ o o', ((w.alloc o).alloc o').cell? ⟨g, 4, none⟩ = some c4) ∧ ∀ o o' j, ((w.alloc o).alloc o').frozen? ⟨g, j, none⟩ = false := by
  have hr : ∀ o, (w.alloc o).heap[g]? = some (.cells #[c0, c1, c2, c3, c4] T (0, 0)) := fun o => (Below.heap_alloc w o g (Array.getElem?_eq_some_iff.1 h).1).trans h
  exact ⟨fun o => (box_later (hr o)).1, fun o => (box_later (hr o)).2.1, fun o => (box_later (hr o)).2.2.1, fun o => (box_later (hr o)).2.2.2.1, fun o => (box_later (hr o)).2.2.2.2.1, fun o => (box_later (hr o)).2.2.2.2.2⟩

end Go.Proofs.Ytpknhmegoldppaa
/-
  valueOf of the program: parts without parts.
-/
namespace Go.Proofs.Ytpknhmegoldppaa
open Go.RowKit Go.Shelf
set_option linter.unusedVariables false
set_option linter.unusedSimpArgs false

set_option maxHeartbeats 3200000 in
set_option maxRecDepth 100000 in
theorem valueOf_nullPart  (w : World) : Calls Try.prog 34 #[.iface 105 (.agg #[])] w fun e w' => e = .returned (.agg #[.int .i64 0, .int .i64 0, .slice none 0 0, .slice none 0 0, .slice none 0 0]) ∧ Below w.heap.size w w' := by
  have m1 := meth_nullPart (.agg #[])
  have t1 := nobool_nullPart (.agg #[])
  have t2 := noint_nullPart (.agg #[])
  have t3 := notext_nullPart (.agg #[])
  have t4 := nolist_nullPart (.agg #[])
  have t5 := nomap_nullPart (.agg #[])
  have HK := hide' (kind_nullPart)
  have HA : Hid (∀ o : Obj, Below w.heap.size w (w.alloc o)) := fun o => (Below.refl _ _).alloc (Nat.le_refl _) o
  go_enter Try.func34, Try.ntmps34
  go_wp2_with fail
  refine (HK.out _).mono ?_
  rintro e w1 ⟨rfl, b1⟩
  have hr : w1.heap[w.heap.size]? = some (.cells #[.int .i64 0, .int .i64 0, .slice none 0 0, .slice none 0 0, .slice none 0 0] 30 (0, 0)) := box_row b1
  obtain ⟨r0, r1, r2, r3, r4, rf⟩ := row5 hr
  have f0 := rf 0
  have f1 := rf 1
  have f2 := rf 2
  have f3 := rf 3
  have f4 := rf 4
  obtain ⟨s0, s1, s2, s3, s4, sf⟩ := box_later hr
  have B1 := hide' (Below.on (HA.out _) b1)
  have hlt : w.heap.size < w1.heap.size := (Array.getElem?_eq_some_iff.1 hr).1
  have Hr := hide' hr
  clear b1 rf hr
  go_wp2_with fail
  have hfin := box_later (set5_heap (j := 0) (.int .i64 0) (.int .i64 0) (.slice none 0 0) (.slice none 0 0) (.slice none 0 0) Hr.out)
  simp only [set5, Nat.zero_add] at hfin
  obtain ⟨y0, y1, y2, y3, y4, _⟩ := hfin
  refine bodyPost_ret (v := .agg #[.int .i64 0, .int .i64 0, .slice none 0 0, .slice none 0 0, .slice none 0 0]) (by simp [results, Try.results34, go_sem, y0, y1, y2, y3, y4]) rfl ?_
  refine ⟨rfl, ?_⟩
  have hz := B1.out.size
  have hg := set5_grown w1 w.heap.size 0 (.int .i64 0) (.int .i64 0) (.slice none 0 0) (.slice none 0 0) (.slice none 0 0)
  have hB := B1.out.grown hg hz (by intro j hj; simp at hj; omega)
  have hs5 := set5_size w1 w.heap.size 0 (.int .i64 0) (.int .i64 0) (.slice none 0 0) (.slice none 0 0) (.slice none 0 0)
  exact hB.alloc (by omega) _

set_option maxHeartbeats 3200000 in
set_option maxRecDepth 100000 in
theorem valueOf_unknownPart  (w : World) : Calls Try.prog 34 #[.iface 106 (.agg #[])] w fun e w' => e = .returned (.agg #[.int .i64 6, .int .i64 0, .slice none 0 0, .slice none 0 0, .slice none 0 0]) ∧ Below w.heap.size w w' := by
  have m1 := meth_unknownPart (.agg #[])
  have t1 := nobool_unknownPart (.agg #[])
  have t2 := noint_unknownPart (.agg #[])
  have t3 := notext_unknownPart (.agg #[])
  have t4 := nolist_unknownPart (.agg #[])
  have t5 := nomap_unknownPart (.agg #[])
  have HK := hide' (kind_unknownPart)
  have HA : Hid (∀ o : Obj, Below w.heap.size w (w.alloc o)) := fun o => (Below.refl _ _).alloc (Nat.le_refl _) o
  go_enter Try.func34, Try.ntmps34
  go_wp2_with fail
  refine (HK.out _).mono ?_
  rintro e w1 ⟨rfl, b1⟩
  have hr : w1.heap[w.heap.size]? = some (.cells #[.int .i64 0, .int .i64 0, .slice none 0 0, .slice none 0 0, .slice none 0 0] 30 (0, 0)) := box_row b1
  obtain ⟨r0, r1, r2, r3, r4, rf⟩ := row5 hr
  have f0 := rf 0
  have f1 := rf 1
  have f2 := rf 2
  have f3 := rf 3
  have f4 := rf 4
  obtain ⟨s0, s1, s2, s3, s4, sf⟩ := box_later hr
  have B1 := hide' (Below.on (HA.out _) b1)
  have hlt : w.heap.size < w1.heap.size := (Array.getElem?_eq_some_iff.1 hr).1
  have Hr := hide' hr
  clear b1 rf hr
  go_wp2_with fail
  have hfin := box_later (set5_heap (j := 0) (.int .i64 6) (.int .i64 0) (.slice none 0 0) (.slice none 0 0) (.slice none 0 0) Hr.out)
  simp only [set5, Nat.zero_add] at hfin
  obtain ⟨y0, y1, y2, y3, y4, _⟩ := hfin
  refine bodyPost_ret (v := .agg #[.int .i64 6, .int .i64 0, .slice none 0 0, .slice none 0 0, .slice none 0 0]) (by simp [results, Try.results34, go_sem, y0, y1, y2, y3, y4]) rfl ?_
  refine ⟨rfl, ?_⟩
  have hz := B1.out.size
  have hg := set5_grown w1 w.heap.size 0 (.int .i64 6) (.int .i64 0) (.slice none 0 0) (.slice none 0 0) (.slice none 0 0)
  have hB := B1.out.grown hg hz (by intro j hj; simp at hj; omega)
  have hs5 := set5_size w1 w.heap.size 0 (.int .i64 6) (.int .i64 0) (.slice none 0 0) (.slice none 0 0) (.slice none 0 0)
  exact hB.alloc (by omega) _

set_option maxHeartbeats 3200000 in
set_option maxRecDepth 100000 in
theorem valueOf_boolPart (n : Int) (w : World) : Calls Try.prog 34 #[.iface 88 (.agg #[.int .i64 n])] w fun e w' => e = .returned (.agg #[.int .i64 1, .int .i64 n, .slice none 0 0, .slice none 0 0, .slice none 0 0]) ∧ Below w.heap.size w w' := by
  have m1 := meth_boolPart (.agg #[.int .i64 n])
  have t1 := is_boolPart (.agg #[.int .i64 n])
  have HK := hide' (kind_boolPart n)
  have HA : Hid (∀ o : Obj, Below w.heap.size w (w.alloc o)) := fun o => (Below.refl _ _).alloc (Nat.le_refl _) o
  go_enter Try.func34, Try.ntmps34
  go_wp2_with fail
  refine (HK.out _).mono ?_
  rintro e w1 ⟨rfl, b1⟩
  have hr : w1.heap[w.heap.size]? = some (.cells #[.int .i64 0, .int .i64 0, .slice none 0 0, .slice none 0 0, .slice none 0 0] 30 (0, 0)) := box_row b1
  obtain ⟨r0, r1, r2, r3, r4, rf⟩ := row5 hr
  have f0 := rf 0
  have f1 := rf 1
  have f2 := rf 2
  have f3 := rf 3
  have f4 := rf 4
  obtain ⟨s0, s1, s2, s3, s4, sf⟩ := box_later2 hr
  have B1 := hide' (Below.on (HA.out _) b1)
  have hlt : w.heap.size < w1.heap.size := (Array.getElem?_eq_some_iff.1 hr).1
  have Hr := hide' hr
  clear b1 rf hr
  go_wp2_with fail
  have hfin := box_later2 (set5_heap (j := 0) (.int .i64 1) (.int .i64 n) (.slice none 0 0) (.slice none 0 0) (.slice none 0 0) Hr.out)
  simp only [set5, Nat.zero_add] at hfin
  obtain ⟨y0, y1, y2, y3, y4, _⟩ := hfin
  refine bodyPost_ret (v := .agg #[.int .i64 1, .int .i64 n, .slice none 0 0, .slice none 0 0, .slice none 0 0]) (by simp [results, Try.results34, go_sem, y0, y1, y2, y3, y4]) rfl ?_
  refine ⟨rfl, ?_⟩
  have hz := B1.out.size
  have hg := set5_grown w1 w.heap.size 0 (.int .i64 1) (.int .i64 n) (.slice none 0 0) (.slice none 0 0) (.slice none 0 0)
  have hB := B1.out.grown hg hz (by intro j hj; simp at hj; omega)
  have hs5 := set5_size w1 w.heap.size 0 (.int .i64 1) (.int .i64 n) (.slice none 0 0) (.slice none 0 0) (.slice none 0 0)
  exact (hB.alloc (by omega) _).alloc (by simp; omega) _

set_option maxHeartbeats 3200000 in
set_option maxRecDepth 100000 in
theorem valueOf_intPart (n : Int) (w : World) : Calls Try.prog 34 #[.iface 89 (.agg #[.int .i64 n])] w fun e w' => e = .returned (.agg #[.int .i64 2, .int .i64 n, .slice none 0 0, .slice none 0 0, .slice none 0 0]) ∧ Below w.heap.size w w' := by
  have m1 := meth_intPart (.agg #[.int .i64 n])
  have t1 := nobool_intPart (.agg #[.int .i64 n])
  have t2 := is_intPart (.agg #[.int .i64 n])
  have HK := hide' (kind_intPart n)
  have HA : Hid (∀ o : Obj, Below w.heap.size w (w.alloc o)) := fun o => (Below.refl _ _).alloc (Nat.le_refl _) o
  go_enter Try.func34, Try.ntmps34
  go_wp2_with fail
  refine (HK.out _).mono ?_
  rintro e w1 ⟨rfl, b1⟩
  have hr : w1.heap[w.heap.size]? = some (.cells #[.int .i64 0, .int .i64 0, .slice none 0 0, .slice none 0 0, .slice none 0 0] 30 (0, 0)) := box_row b1
  obtain ⟨r0, r1, r2, r3, r4, rf⟩ := row5 hr
  have f0 := rf 0
  have f1 := rf 1
  have f2 := rf 2
  have f3 := rf 3
  have f4 := rf 4
  obtain ⟨s0, s1, s2, s3, s4, sf⟩ := box_later2 hr
  have B1 := hide' (Below.on (HA.out _) b1)
  have hlt : w.heap.size < w1.heap.size := (Array.getElem?_eq_some_iff.1 hr).1
  have Hr := hide' hr
  clear b1 rf hr
  go_wp2_with fail
  have hfin := box_later2 (set5_heap (j := 0) (.int .i64 2) (.int .i64 n) (.slice none 0 0) (.slice none 0 0) (.slice none 0 0) Hr.out)
  simp only [set5, Nat.zero_add] at hfin
  obtain ⟨y0, y1, y2, y3, y4, _⟩ := hfin
  refine bodyPost_ret (v := .agg #[.int .i64 2, .int .i64 n, .slice none 0 0, .slice none 0 0, .slice none 0 0]) (by simp [results, Try.results34, go_sem, y0, y1, y2, y3, y4]) rfl ?_
  refine ⟨rfl, ?_⟩
  have hz := B1.out.size
  have hg := set5_grown w1 w.heap.size 0 (.int .i64 2) (.int .i64 n) (.slice none 0 0) (.slice none 0 0) (.slice none 0 0)
  have hB := B1.out.grown hg hz (by intro j hj; simp at hj; omega)
  have hs5 := set5_size w1 w.heap.size 0 (.int .i64 2) (.int .i64 n) (.slice none 0 0) (.slice none 0 0) (.slice none 0 0)
  exact (hB.alloc (by omega) _).alloc (by simp; omega) _

end Go.Proofs.Ytpknhmegoldppaa
/-
  A string of bytes as cells; 'append(out, s...)' of a string.
-/
namespace Go.Proofs.Ytpknhmegoldppaa
open Go.RowKit
set_option linter.unusedVariables false

theorem strCells_of {xs : List Int} (h : ∀ x ∈ xs, Byt x) : Lib.strCells (strOf xs) = cellsOf xs := by
  show (u8s xs).map (fun b => Value.int .u8 (b.toNat : Int)) = _
  unfold u8s cellsOf
  rw [List.map_map]
  refine List.map_congr_left fun x hx => ?_
  have hb := h x hx
  unfold Byt at hb
  simp
  omega

theorem size_strOf (xs : List Int) : (strOf xs).size = xs.length := by simp [strOf, ByteArray.size]

/-- 'append(out, s...)', out nil or the call's own, s a string: what is owned grows by the bytes of s. -/
theorem wpList_append_text {w : World} {ops : Array Oper} {rest : List Oper} {o : Oper} {a : Act} {Q : Exit → Act → World → Prop} (hgd : o.guard = none) (s x : Operand) (t : TypeId)
    (ho : o.op = .call { callee := .builtin .append, args := #[s, x], argTypes := #[22, t] }) (ht : Try.prog.underlying t = some .string)
    (base : Nat) (v : Value) (xs ys : List Int) (hs : a.eval s = v) (hB : Bts w base v xs) (sx : ByteArray) (hsx : sx = strOf ys) (hy : ∀ y ∈ ys, Byt y) (hx : a.eval x = .string sx)
    (hlen : xs.length + ys.length ≤ 1099511627776) (hbase : base ≤ w.heap.size)
    (h : ∀ v' w', Bts w' base v' (xs ++ ys) → w.grownBy w' v.ownBlock → wpList Try.prog ops Q rest (a.put o.dst v') w') : wpList Try.prog ops Q (o :: rest) a w := by
  obtain ⟨i0, hi, hz0, hz1, hz2⟩ := info_parts info5
  subst hsx
  have hsz := size_strOf ys
  refine Lib.wpList_append_own_string w hgd s x 22 t ho base 5 i0 Try.underlying22 ht hi hz0 hz1 hz2 v xs.length (cellsOf xs) hs hB.2 (strOf ys) hx (by unfold maxLen; omega) (by omega) hbase ?_
  intro v' w' hown hg _
  refine h v' w' ⟨?_, ?_⟩ hg
  · intro z hz
    rcases List.mem_append.1 hz with h1 | h1
    · exact hB.1 z h1
    · exact hy z h1
  · rw [strCells_of hy, hsz, ← cellsOf_append] at hown
    rw [List.length_append]
    exact hown

end Go.Proofs.Ytpknhmegoldppaa
