/-
  Texts that a law leans on, one behind the other; no statement is proved here.
-/
import Derived.Test.YtenfnbnhdmkhkaaPk16
/-
  mapWith of the program, walked: it makes a map of names and parts.
-/
namespace Go.Proofs.Ytenfnbnhdmkhkaa
open Go.RowKit
set_option linter.unusedVariables false
set_option linter.unusedSimpArgs false

theorem keyS (xs : List Int) (h : xs.length ≤ maxLen) : Go.keyOf Try.prog 9 (.string (strOf xs)) = some (.string (u8s xs)) :=
  WideMaps.keyOf_string_mk Try.underlying9 (by show (xs.map _).toArray.size ≤ maxLen; rw [List.size_toArray, List.length_map]; exact h)

/-- What mapWith leaves: a new map with these entries. -/
def MapWEnd (vK : List (List Int)) (ps : List Value) (m : Nat) (w : World) (e : Ending) (w' : World) : Prop :=
  ∃ b, e = .returned (.agg #[.map (some b)]) ∧ w.heap.size ≤ b ∧ b < w'.heap.size ∧ w'.ownsMap Try.prog 9 tokR b m (mapD vK ps m) ∧ Below w.heap.size w w'

set_option maxHeartbeats 4000000 in
theorem mapWith_of (N : Nat) (z : Value) (vK : List (List Int)) (m : Nat) (a : Option Addr) (cap : Nat) (ps : List Value) (w : World) (hz : KSeg (fun b => b < N) w z vK) (hN : N ≤ w.heap.size) (hkl : vK.length = m) (hlen : m ≤ 40)
    (hcell : m = 0 ∨ ∃ b off, a = some ⟨b, off, none⟩ ∧ b < w.heap.size ∧ ∀ i, i < m → w.cell? ⟨b, off + i, none⟩ = some (ps.getD i .nilIface)) (hsh : ∀ i, i < m → ∃ pt px, ps.getD i .nilIface = .iface pt px) :
    Calls Try.prog 66 #[z, .slice a m cap] w (MapWEnd vK ps m w) := by
  have HZ := hide' hz
  have HC := hide' hcell
  have HSh := hide' hsh
  have HKL := hide' hkl
  obtain ⟨a3, p3, rfl, hlc3, hcm3, ka3, _⟩ := hz
  unfold maxLen at hcm3
  have hmk := run_makeMapN 58 9 49 (m : Int) (w.alloc (.cells #[.map none] 60)) Try.underlying58
  have hM0 : ((w.alloc (.cells #[.map none] 60)).alloc (.map #[] 0)).ownsMap Try.prog 9 tokR (w.heap.size + 1) 0 (mapD vK ps 0) := by
    have := World.ownsMap_made (w.alloc (.cells #[.map none] 60)) Try.prog 9 tokR
    rw [World.size_alloc] at this
    exact this
  rw [World.size_alloc] at hmk
  rw [hkl] at HZ
  rw [hkl] at hlc3
  rw [hkl]
  clear hcell hsh hkl
  go_enter Try.func66, Try.ntmps66
  go_wp2
  go_loopw [13] (fun i wr => ∃ k : Nat, k ≤ m ∧ i = .int .i64 k ∧ wr.ownsMap Try.prog 9 tokR (w.heap.size + 1) k (mapD vK ps k) ∧ Hid (((w.alloc (.cells #[.map none] 60)).alloc (.map #[] 0)).grownBy wr (some (w.heap.size + 1)))) (fun i _ => m - (intOf i).toNat)
  case atStart => exact ⟨0, Nat.zero_le _, rfl, hM0, World.grownBy.refl _ _⟩
  case round =>
    obtain ⟨k, hk, rfl, hown, hgr⟩ := hrel
    clear hM0 hmk
    have hal1 : w.grownBy (w.alloc (.cells #[.map none] 60)) none := World.grownBy_alloc w _ none
    have hal2 : (w.alloc (.cells #[.map none] 60)).grownBy ((w.alloc (.cells #[.map none] 60)).alloc (.map #[] 0)) none := World.grownBy_alloc _ _ none
    have hlow2 : ∀ b, b < w.heap.size + 1 → wr.heap[b]? = (w.alloc (.cells #[.map none] 60)).heap[b]? := fun b hb => (hgr.out.block b (by simp; omega) (by simp; omega)).trans (hal2.block b (by simp; omega) (by simp))
    have hlow : ∀ b, b < w.heap.size → wr.heap[b]? = w.heap[b]? := fun b hb => (hlow2 b (by omega)).trans (hal1.block b hb (by simp))
    by_cases hlt : k < m
    · have hlt' : (k : Int) < (m : Int) := by omega
      have hit : ∃ b off, a = some ⟨b, off, none⟩ ∧ wr.cell? ⟨b, off + k, none⟩ = some (ps.getD k .nilIface) := by
        rcases HC.out with h0 | ⟨b, off, rfl, hb, hcc⟩
        · omega
        · exact ⟨b, off, rfl, (World.cell?_of_block (hlow b hb)).trans (hcc k hlt)⟩
      obtain ⟨ib, io, rfl, hitem⟩ := hit
      have hag : Agree (fun b => b < N) w wr := fun b hb => hlow b (by omega)
      have hKr : KSeg (fun b => b < N) wr (.slice a3 m p3) vK := HZ.out.agree hag
      have hltK : k < vK.length := by have := HKL.out; omega
      obtain ⟨kb, ko, rfl, hat⟩ := hKr.at hltK
      obtain ⟨s2, e2, hu, g2, m2⟩ := hat k hltK
      have hcv := conv_seg e2 g2
      have hkey := keyS (vK.getD k []) m2
      have HD : Hid (mapD vK ps (k + 1) = (mapD vK ps k).put (.string (u8s (vK.getD k []))) (.held (ps.getD k .nilIface))) := rfl
      obtain ⟨pt, px, hpx⟩ := HSh.out k hlt
      rw [hpx] at hitem HD
      generalize vK.getD k [] = ys at *
      clear hlow hlow2 hag hKr hat g2 hal1 hal2 hpx
      go_wp2_with (at_mapUpdate; refine wpList_mapUpdate_own _ rfl _ _ _ 58 rfl 9 49 (Maps.string_keyed Try.underlying9) Try.underlying58 tokR (w.heap.size + 1) k _ rfl hown (by unfold maxLen; omega) _ _ _ rfl rfl hkey _ [] rfl ?_; intro w3 hown3 hg3)
      have hown4 : w3.ownsMap Try.prog 9 tokR (w.heap.size + 1) (k + 1) (mapD vK ps (k + 1)) := by rw [HD.out]; exact hown3
      have hgr3 : Hid (((w.alloc (.cells #[.map none] 60)).alloc (.map #[] 0)).grownBy w3 (some (w.heap.size + 1))) := grownBy_trans hgr.out hg3
      clear hown3 hg3 hown hgr hkey hcv hitem hu
      go_wp2
      go_roundw
      case rel => exact ⟨k + 1, by omega, by go_num, hown4, hgr3⟩
      case measure => simp [intOf]; omega
    · have hkn : k = m := by omega
      have hlt' : ¬ (k : Int) < (m : Int) := by omega
      obtain rfl := hkn
      have hsz3 : w.heap.size + 2 ≤ wr.heap.size := by have := hgr.out.size; simpa using this
      have hR : wr.heap[w.heap.size]? = some (.cells #[.map none] 60 (0, 0)) := (hlow2 w.heap.size (by omega)).trans (MapKept.heap_alloc w _).1
      have rc : wr.cell? ⟨w.heap.size, 0, none⟩ = some (.map none) := by rw [cell_of_row wr w.heap.size 0 _ _ _ hR]; rfl
      have rf : wr.frozen? ⟨w.heap.size, 0, none⟩ = false := frozen_of_row _ _ _ _ _ hR
      have hBw : Below w.heap.size w wr := ⟨hgr.out.os, hgr.out.tape, hgr.out.output, by omega, fun b hb => hlow b hb⟩
      have HR := hide' hR
      have HBw := hide' hBw
      clear hlow hlow2 hal1 hal2 hgr hR hBw
      go_wp2_with fail
      have hrow := heap_setCell_same wr w.heap.size 0 _ _ (.map (some (w.heap.size + 1))) HR.out
      have hc := cell_of_row _ _ 0 _ _ _ hrow
      have hg := grown1 wr w.heap.size 0 (.map (some (w.heap.size + 1)))
      refine bodyPost_ret (v := .agg #[.map (some (w.heap.size + 1))]) (by simp [results, Try.results66, go_sem, hc]) rfl ?_
      exact ⟨w.heap.size + 1, rfl, by omega, by simp [World.setCell]; omega, hown.kept hg (by simp), HBw.out.grown hg (by omega) (by intro j hj; simp at hj; omega)⟩
end Go.Proofs.Ytenfnbnhdmkhkaa
/-
  takeMap of the program, walked: it takes a map in.
-/
namespace Go.Proofs.Ytenfnbnhdmkhkaa
open Go.RowKit
set_option linter.unusedVariables false
set_option linter.unusedSimpArgs false

theorem below_grown {w w' : World} (h : Below w.heap.size w w') (r : Option Nat) : w.grownBy w' r := ⟨h.os, h.tape, h.output, h.size, fun k hk _ => h.block k hk⟩

/-- What a good takeMap has brought about. -/
def TookMap (d : Nat) (vK : List (List Int)) (vL : List (Vl d)) (deep n q : Nat) (w w' : World) (p : Value) : Prop :=
  vK.length = vL.length ∧ ascB vK = true ∧ (∀ j (h : j < vL.length), goodB d vL[j] (deep + 1) = true) ∧ n + pre (partsV d) vL vL.length ≤ 40 ∧ Cnt w' q (n + pre (partsV d) vL vL.length) ∧
    PSeg (fun b => w.heap.size ≤ b ∧ b < w'.heap.size) w' (d + 1) p (5, 0, [], vK, vL)

/-- It is no map that may be. -/
def NoMap (d : Nat) (vK : List (List Int)) (vL : List (Vl d)) (deep n : Nat) : Prop := ¬ (vK.length = vL.length ∧ ascB vK = true ∧ (∀ j (h : j < vL.length), goodB d vL[j] (deep + 1) = true) ∧ n + pre (partsV d) vL vL.length ≤ 40)

theorem agree_box {N q : Nat} {w w' : World} {o : Obj} (h : (w.alloc o).grownBy w' (some q)) (hN : N ≤ q) (hq : q < w.heap.size) : Agree (fun b => b < N) w w' := fun b hb =>
  (h.block b (by simp; omega) (by simp; omega)).trans ((World.grownBy_alloc w o none).block b (by omega) (by simp))

set_option maxHeartbeats 4000000 in
theorem takeMap_of (d : Nat) (ih : TakeAt d) (N q n : Nat) (vk vn : Int) (a2 : Option Addr) (l2 p2 : Nat) (z x : Value) (vK : List (List Int)) (vL : List (Vl d)) (deep : Nat) (w : World) (hz : KSeg (fun b => b < N) w z vK) (hx : LSeg (fun b => b < N) w d x vL) (hNq : N ≤ q) (hq : q < w.heap.size) (hc : Cnt w q n) (hn : n ≤ 40) (hd : deep ≤ 5) :
    Calls Try.prog 57 #[.pointer (some ⟨q, 0, none⟩), .agg #[.int .i64 vk, .int .i64 vn, .slice a2 l2 p2, z, x], .int .i64 deep] w fun e w' =>
      w.grownBy w' (some q) ∧ ((∃ p, e = .returned (.tuple #[p, .bool true]) ∧ TookMap d vK vL deep n q w w' p) ∨ (e = .returned (.tuple #[.nilIface, .bool false]) ∧ NoMap d vK vL deep n)) := by
  have HX := hide' hx
  have HZ := hide' hz
  obtain ⟨a4, p4, rfl, hlc, hcm, ka, _⟩ := hx
  obtain ⟨a3, p3, rfl, hlc3, hcm3, ka3, _⟩ := hz
  unfold maxLen at hcm hcm3
  generalize hO : Obj.cells #[.int .i64 vk, .int .i64 vn, .slice a2 l2 p2, .slice a3 vK.length p3, .slice a4 vL.length p4] 26 = ob
  have HOb := hide' hO
  have gB : w.grownBy (w.alloc ob) (some q) := World.grownBy_alloc w ob (some q)
  have agB : Agree (fun b => b < N) w (w.alloc ob) := fun b hb => gB.block b (by omega) (by simp; omega)
  have HG := hide' gB
  by_cases hkl : vK.length = vL.length
  · have HA : Hid (Calls Try.prog 65 #[.slice a3 vK.length p3] (w.alloc ob) fun e w' => e = .returned (.bool (ascB vK)) ∧ w.alloc ob = w') := ascendingNames_any _ _ vK _ (HZ.out.agree agB)
    have HT : Hid (Calls Try.prog 56 #[.pointer (some ⟨q, 0, none⟩), .slice a4 vL.length p4, .int .i64 ((deep : Int) + 1)] (w.alloc ob) fun e w' =>
        (w.alloc ob).grownBy w' (some q) ∧ ((∃ y, e = .returned (.tuple #[y, .bool true]) ∧ TookAll d vL (deep + 1) n q (w.alloc ob) w' y) ∨ (e = .returned (.tuple #[.slice none 0 0, .bool false]) ∧ ¬ ((∀ j (h : j < vL.length), goodB d vL[j] (deep + 1) = true) ∧ n + pre (partsV d) vL vL.length ≤ 40)))) := by
      have := takeAll_of d ih N q n _ vL (deep + 1) (w.alloc ob) (HX.out.agree agB) hNq (by simp; omega) (hc.keep (World.grownBy_alloc w ob none) (by simp)) hn (by omega)
      rw [Int.natCast_add] at this
      exact this
    have HKL := hide' hkl
    rw [hkl] at HA hlc3
    rw [hkl] at hO HOb
    rw [hkl] at HZ
    clear ih hc agB gB
    by_cases has : ascB vK = true
    · rw [has] at HA
      have HAs := hide' has
      clear has
      rw [hkl]
      subst hO
      clear hkl
      go_enter Try.func57, Try.ntmps57
      go_wp2_with fail
      refine HA.out.mono ?_
      rintro e w1 ⟨rfl, e1⟩
      obtain rfl := e1
      go_wp2_with fail
      refine HT.out.mono ?_
      rintro e w1 ⟨hg1, hcase⟩
      rcases hcase with ⟨y, rfl, htook⟩ | ⟨rfl, hbad⟩
      · obtain ⟨hgood, hle, hcnt, a, cap, ps, rfl, hcell, hpp⟩ := htook
        have hlen : vL.length ≤ 40 := by have := pre_ge d vL vL.length (Nat.le_refl _); omega
        have hq1 : q < w1.heap.size := by have := hg1.size; simp at this; omega
        have hbx : w.heap.size < w1.heap.size := by have := hg1.size; simp at this; omega
        have HGo := hide' hgood
        have HLe := hide' hle
        have HCn := hide' hcnt
        have HG1 := hide' hg1
        have hag : Agree (fun b => b < N) w w1 := fun b hb => agree_box hg1 hNq hq b hb
        have hrow : w1.heap[w.heap.size]? = some (.cells #[.int .i64 vk, .int .i64 vn, .slice a2 l2 p2, .slice a3 vL.length p3, .slice a4 vL.length p4] 26 (0, 0)) :=
          (hg1.block w.heap.size (by simp) (by simp; omega)).trans (MapKept.heap_alloc w _).1
        obtain ⟨y0, y1, y2, y3, y4, _⟩ := row5 hrow
        have HMW := hide' (mapWith_of N _ vK vL.length a cap ps w1 (HZ.out.agree hag) (by omega) HKL.out hlen (by
          rcases hcell with h0 | ⟨b, rfl, _, hb, hcc⟩
          · exact .inl (by rw [h0]; rfl)
          · exact .inr ⟨b, 0, rfl, hb, fun i hi => by rw [Nat.zero_add]; exact hcc i hi⟩) (fun i hi => (hpp i hi).shape))
        have HPp := hide' hpp
        clear hgood hle hcnt hcell hpp HA HT hag hrow hg1
        go_wp2_with fail
        refine HMW.out.mono ?_
        rintro e w2 ⟨mb, rfl, hmb, hmb2, hown, hB2⟩
        have hsz1 : w.heap.size + 1 ≤ w1.heap.size := by omega
        have hP : PSeg (fun b => w.heap.size ≤ b ∧ b < w2.heap.size) w2 (d + 1) (.iface 60 (.agg #[.map (some mb)])) (5, 0, [], vK, vL) := by
          refine .inr (.inr (.inr (.inr (.inr (.inr ⟨rfl, mb, ps, rfl, ⟨by omega, by omega⟩, hown.mono (n' := 64) (by omega), fun i hi => ?_⟩)))))
          refine PSeg.carry (fun b hb => ⟨?_, ?_⟩) (fun b hb => hB2.block b hb.2) d (HPp.out i hi)
          · have := hb.1
            simp at this
            omega
          · have := hb.2
            have := hB2.size
            omega
        have hcn : Cnt w2 q (n + pre (partsV d) vL vL.length) := (hB2.block q hq1).trans HCn.out
        have hgf : w.grownBy w2 (some q) := grownBy_fresh (grownBy_trans HG.out HG1.out) (below_grown hB2 none) (by simp)
        have HF : Hid (TookMap d vK vL deep n q w w2 (.iface 60 (.agg #[.map (some mb)]))) := ⟨HKL.out, HAs.out, HGo.out, HLe.out, hcn, hP⟩
        clear hP hcn hown hB2
        go_wp2
        go_ret2
        exact ⟨hgf, .inl ⟨_, rfl, HF.out⟩⟩
      · have hgf := grownBy_trans HG.out hg1
        have hno : NoMap d vK vL deep n := fun h => hbad h.2.2
        go_wp2
        go_ret2
        exact ⟨hgf, .inr ⟨rfl, hno⟩⟩
    · have has' : ascB vK = false := by simpa using has
      rw [has'] at HA
      have hno : NoMap d vK vL deep n := fun h => has h.2.1
      have Hno := hide' hno
      clear has has' hno
      rw [hkl]
      subst hO
      clear hkl HT
      go_enter Try.func57, Try.ntmps57
      go_wp2_with fail
      refine HA.out.mono ?_
      rintro e w1 ⟨rfl, e1⟩
      obtain rfl := e1
      go_wp2
      go_ret2
      exact ⟨HG.out, .inr ⟨rfl, Hno.out⟩⟩
  · have hne : ¬ (vK.length : Int) = (vL.length : Int) := by omega
    have Hno : Hid (NoMap d vK vL deep n) := fun h => hkl h.1
    subst hO
    clear ih hkl agB gB
    go_enter Try.func57, Try.ntmps57
    go_wp2
    go_ret2
    exact ⟨HG.out, .inr ⟨rfl, Hno.out⟩⟩
end Go.Proofs.Ytenfnbnhdmkhkaa
/-
  take of the program at every value; partOf, ValOk of the program.
-/
namespace Go.Proofs.Ytenfnbnhdmkhkaa
open Go.RowKit
set_option linter.unusedVariables false
set_option linter.unusedSimpArgs false


/-- take was not good. -/
def NoTake (d : Nat) (v : Vl d) (deep n : Nat) : Prop := ¬ (goodB d v deep = true ∧ n + partsV d v ≤ 40)

/-- What take has done ahead of the kinds. -/
def Ahead (w : World) (q n : Nat) (vk vn : Int) (a2 a3 a4 : Option Addr) (l2 l3 l4 p2 p3 p4 : Nat) (w2 : World) : Prop :=
  w.grownBy w2 (some q) ∧ Cnt w2 q (n + 1) ∧ w2.heap[w.heap.size]? = some (.cells #[.int .i64 vk, .int .i64 vn, .slice a2 l2 p2, .slice a3 l3 p3, .slice a4 l4 p4] 26 (0, 0))

theorem ahead_of {w : World} {q n : Nat} {vk vn : Int} {a2 a3 a4 : Option Addr} {l2 l3 l4 p2 p3 p4 : Nat} {w2 : World} {x : Int} (hx : x = (n : Int) + 1) (hq : q < w.heap.size) (hc : Cnt w q n)
    (hb : Below ((w.setCell ⟨q, 0, none⟩ (.int .i64 x)).alloc (.cells #[.int .i64 vk, .int .i64 vn, .slice a2 l2 p2, .slice a3 l3 p3, .slice a4 l4 p4] 26)).heap.size ((w.setCell ⟨q, 0, none⟩ (.int .i64 x)).alloc (.cells #[.int .i64 vk, .int .i64 vn, .slice a2 l2 p2, .slice a3 l3 p3, .slice a4 l4 p4] 26)) w2) :
    Ahead w q n vk vn a2 a3 a4 l2 l3 l4 p2 p3 p4 w2 := by
  subst hx
  have hg := grown1 w q 0 (.int .i64 ((n : Int) + 1))
  have hcs : Cnt (w.setCell ⟨q, 0, none⟩ (.int .i64 ((n : Int) + 1))) q (n + 1) := hc.set (n + 1)
  have hsz : (w.setCell ⟨q, 0, none⟩ (.int .i64 ((n : Int) + 1))).heap.size = w.heap.size := by simp [World.setCell]
  have hal := World.grownBy_alloc (w.setCell ⟨q, 0, none⟩ (.int .i64 ((n : Int) + 1))) (.cells #[.int .i64 vk, .int .i64 vn, .slice a2 l2 p2, .slice a3 l3 p3, .slice a4 l4 p4] 26) none
  have hb2 := below_grown hb none
  have hnew := (MapKept.heap_alloc (w.setCell ⟨q, 0, none⟩ (.int .i64 ((n : Int) + 1))) (.cells #[.int .i64 vk, .int .i64 vn, .slice a2 l2 p2, .slice a3 l3 p3, .slice a4 l4 p4] 26)).1
  rw [hsz] at hnew
  refine ⟨grownBy_fresh (grownBy_fresh hg hal (by simp)) hb2 (by simp), (hcs.keep hal (by simp)).keep hb2 (by simp), (hb2.block w.heap.size (by simp [hsz]) (by simp)).trans hnew⟩

set_option maxHeartbeats 4000000 in
set_option maxRecDepth 100000 in
theorem take_over (q n : Nat) (vk vn : Int) (a2 a3 a4 : Option Addr) (l2 l3 l4 p2 p3 p4 : Nat) (deep : Nat) (w : World) (hq : q < w.heap.size) (hc : Cnt w q n) (hn : n = 40) :
    Calls Try.prog 39 #[.pointer (some ⟨q, 0, none⟩), .agg #[.int .i64 vk, .int .i64 vn, .slice a2 l2 p2, .slice a3 l3 p3, .slice a4 l4 p4], .int .i64 deep] w fun e w' => w.grownBy w' (some q) ∧ e = .returned (.tuple #[.nilIface, .bool false]) := by
  subst hn
  have HA : Hid (Cnt w q 40) := hc
  obtain ⟨hc0, hf0⟩ := hc.cell
  have hne : q ≠ w.heap.size := by omega
  clear hc
  go_enter Try.func39, Try.ntmps39
  go_wp2
  go_ret2
  exact ⟨(ahead_of (n := 40) rfl hq HA.out (Below.refl _ _)).1, rfl⟩

set_option maxHeartbeats 4000000 in
set_option maxRecDepth 100000 in
theorem take_deep (q n : Nat) (vk vn : Int) (l2 l3 l4 : Nat) (a2 a3 a4 : Option Addr) (p2 p3 p4 : Nat) (deep : Nat) (w : World) (hq : q < w.heap.size) (hc : Cnt w q n) (hn : n < 40) (hd : 5 < deep) :
    Calls Try.prog 39 #[.pointer (some ⟨q, 0, none⟩), .agg #[.int .i64 vk, .int .i64 vn, .slice a2 l2 p2, .slice a3 l3 p3, .slice a4 l4 p4], .int .i64 deep] w fun e w' => Ahead w q n vk vn a2 a3 a4 l2 l3 l4 p2 p3 p4 w' ∧ e = .returned (.tuple #[.nilIface, .bool false]) := by
  have HA : Hid (Cnt w q n) := hc
  obtain ⟨hc0, hf0⟩ := hc.cell
  have hne : q ≠ w.heap.size := by omega
  have hnn : ¬ (40 : Int) < (n : Int) + 1 := by omega
  have hdd : (5 : Int) < (deep : Int) := by omega
  clear hc
  go_enter Try.func39, Try.ntmps39
  go_wp2
  go_ret2
  exact ⟨ahead_of rfl hq HA.out (Below.refl _ _), rfl⟩

set_option maxHeartbeats 4000000 in
set_option maxRecDepth 100000 in
theorem take_bare (q n : Nat) (vk vn : Int) (l2 l3 l4 : Nat) (a2 a3 a4 : Option Addr) (p2 p3 p4 : Nat) (deep : Nat) (w : World) (hq : q < w.heap.size) (hc : Cnt w q n) (hn : n < 40) (hd : deep ≤ 5) (hb : bareB vk vn l2 l3 l4 = false) :
    Calls Try.prog 39 #[.pointer (some ⟨q, 0, none⟩), .agg #[.int .i64 vk, .int .i64 vn, .slice a2 l2 p2, .slice a3 l3 p3, .slice a4 l4 p4], .int .i64 deep] w fun e w' => Ahead w q n vk vn a2 a3 a4 l2 l3 l4 p2 p3 p4 w' ∧ e = .returned (.tuple #[.nilIface, .bool false]) := by
  have HA : Hid (Cnt w q n) := hc
  obtain ⟨hc0, hf0⟩ := hc.cell
  have hne : q ≠ w.heap.size := by omega
  have hnn : ¬ (40 : Int) < (n : Int) + 1 := by omega
  have hdd : ¬ (5 : Int) < (deep : Int) := by omega
  clear hc
  go_enter Try.func39, Try.ntmps39
  go_wp2_with fail
  refine (impl_bare_any _ _ _ _ _ _ _ _ _ _ _ _).mono ?_
  rintro e w2 ⟨rfl, b2⟩
  have hA := ahead_of rfl hq HA.out b2
  rw [hb]
  obtain ⟨y0, y1, y2, y3, y4, _⟩ := row5 hA.2.2
  have HAh := hide' hA
  clear b2 hA
  go_wp2
  go_ret2
  exact ⟨HAh.out, rfl⟩

set_option maxHeartbeats 4000000 in
set_option maxRecDepth 100000 in
theorem take_null (q n : Nat) (a2 a3 a4 : Option Addr) (p2 p3 p4 : Nat) (deep : Nat) (w : World) (hq : q < w.heap.size) (hc : Cnt w q n) (hn : n < 40) (hd : deep ≤ 5) :
    Calls Try.prog 39 #[.pointer (some ⟨q, 0, none⟩), .agg #[.int .i64 0, .int .i64 0, .slice a2 0 p2, .slice a3 0 p3, .slice a4 0 p4], .int .i64 deep] w fun e w' => Ahead w q n 0 0 a2 a3 a4 0 0 0 p2 p3 p4 w' ∧ e = .returned (.tuple #[.iface 102 (.agg #[]), .bool true]) := by
  have HA : Hid (Cnt w q n) := hc
  obtain ⟨hc0, hf0⟩ := hc.cell
  have hne : q ≠ w.heap.size := by omega
  have hnn : ¬ (40 : Int) < (n : Int) + 1 := by omega
  have hdd : ¬ (5 : Int) < (deep : Int) := by omega
  clear hc
  go_enter Try.func39, Try.ntmps39
  go_wp2_with fail
  refine (impl_bare_any _ _ _ _ _ _ _ _ _ _ _ _).mono ?_
  rintro e w2 ⟨rfl, b2⟩
  have hA := ahead_of rfl hq HA.out b2
  rw [show bareB 0 0 0 0 0 = true from by simp [bareB, *]]
  obtain ⟨y0, y1, y2, y3, y4, _⟩ := row5 hA.2.2
  have HAh := hide' hA
  clear b2 hA
  go_wp2
  go_ret2
  exact ⟨HAh.out, rfl⟩

set_option maxHeartbeats 4000000 in
set_option maxRecDepth 100000 in
theorem take_unknown (q n : Nat) (a2 a3 a4 : Option Addr) (p2 p3 p4 : Nat) (deep : Nat) (w : World) (hq : q < w.heap.size) (hc : Cnt w q n) (hn : n < 40) (hd : deep ≤ 5) :
    Calls Try.prog 39 #[.pointer (some ⟨q, 0, none⟩), .agg #[.int .i64 6, .int .i64 0, .slice a2 0 p2, .slice a3 0 p3, .slice a4 0 p4], .int .i64 deep] w fun e w' => Ahead w q n 6 0 a2 a3 a4 0 0 0 p2 p3 p4 w' ∧ e = .returned (.tuple #[.iface 103 (.agg #[]), .bool true]) := by
  have HA : Hid (Cnt w q n) := hc
  obtain ⟨hc0, hf0⟩ := hc.cell
  have hne : q ≠ w.heap.size := by omega
  have hnn : ¬ (40 : Int) < (n : Int) + 1 := by omega
  have hdd : ¬ (5 : Int) < (deep : Int) := by omega
  clear hc
  go_enter Try.func39, Try.ntmps39
  go_wp2_with fail
  refine (impl_bare_any _ _ _ _ _ _ _ _ _ _ _ _).mono ?_
  rintro e w2 ⟨rfl, b2⟩
  have hA := ahead_of rfl hq HA.out b2
  rw [show bareB 6 0 0 0 0 = true from by simp [bareB, *]]
  obtain ⟨y0, y1, y2, y3, y4, _⟩ := row5 hA.2.2
  have HAh := hide' hA
  clear b2 hA
  go_wp2
  go_ret2
  exact ⟨HAh.out, rfl⟩

set_option maxHeartbeats 4000000 in
set_option maxRecDepth 100000 in
theorem take_bool0 (q n : Nat) (a2 a3 a4 : Option Addr) (p2 p3 p4 : Nat) (deep : Nat) (w : World) (hq : q < w.heap.size) (hc : Cnt w q n) (hn : n < 40) (hd : deep ≤ 5) :
    Calls Try.prog 39 #[.pointer (some ⟨q, 0, none⟩), .agg #[.int .i64 1, .int .i64 0, .slice a2 0 p2, .slice a3 0 p3, .slice a4 0 p4], .int .i64 deep] w fun e w' => Ahead w q n 1 0 a2 a3 a4 0 0 0 p2 p3 p4 w' ∧ e = .returned (.tuple #[.iface 77 (.agg #[.int .i64 0]), .bool true]) := by
  have HA : Hid (Cnt w q n) := hc
  obtain ⟨hc0, hf0⟩ := hc.cell
  have hne : q ≠ w.heap.size := by omega
  have hnn : ¬ (40 : Int) < (n : Int) + 1 := by omega
  have hdd : ¬ (5 : Int) < (deep : Int) := by omega
  clear hc
  go_enter Try.func39, Try.ntmps39
  go_wp2_with fail
  refine (impl_bare_any _ _ _ _ _ _ _ _ _ _ _ _).mono ?_
  rintro e w2 ⟨rfl, b2⟩
  have hA := ahead_of rfl hq HA.out b2
  rw [show bareB 1 0 0 0 0 = true from by simp [bareB, *]]
  obtain ⟨y0, y1, y2, y3, y4, _⟩ := row5 hA.2.2
  have HAh := hide' hA
  clear b2 hA
  go_wp2
  go_ret2
  exact ⟨HAh.out, rfl⟩

set_option maxHeartbeats 4000000 in
set_option maxRecDepth 100000 in
theorem take_bool1 (q n : Nat) (a2 a3 a4 : Option Addr) (p2 p3 p4 : Nat) (deep : Nat) (w : World) (hq : q < w.heap.size) (hc : Cnt w q n) (hn : n < 40) (hd : deep ≤ 5) :
    Calls Try.prog 39 #[.pointer (some ⟨q, 0, none⟩), .agg #[.int .i64 1, .int .i64 1, .slice a2 0 p2, .slice a3 0 p3, .slice a4 0 p4], .int .i64 deep] w fun e w' => Ahead w q n 1 1 a2 a3 a4 0 0 0 p2 p3 p4 w' ∧ e = .returned (.tuple #[.iface 77 (.agg #[.int .i64 1]), .bool true]) := by
  have HA : Hid (Cnt w q n) := hc
  obtain ⟨hc0, hf0⟩ := hc.cell
  have hne : q ≠ w.heap.size := by omega
  have hnn : ¬ (40 : Int) < (n : Int) + 1 := by omega
  have hdd : ¬ (5 : Int) < (deep : Int) := by omega
  clear hc
  go_enter Try.func39, Try.ntmps39
  go_wp2_with fail
  refine (impl_bare_any _ _ _ _ _ _ _ _ _ _ _ _).mono ?_
  rintro e w2 ⟨rfl, b2⟩
  have hA := ahead_of rfl hq HA.out b2
  rw [show bareB 1 1 0 0 0 = true from by simp [bareB, *]]
  obtain ⟨y0, y1, y2, y3, y4, _⟩ := row5 hA.2.2
  have HAh := hide' hA
  clear b2 hA
  go_wp2
  go_ret2
  exact ⟨HAh.out, rfl⟩

set_option maxHeartbeats 4000000 in
set_option maxRecDepth 100000 in
theorem take_boolno (q n : Nat) (vn : Int) (v0 : ¬ vn = 0) (v1 : ¬ vn = 1) (a2 a3 a4 : Option Addr) (p2 p3 p4 : Nat) (deep : Nat) (w : World) (hq : q < w.heap.size) (hc : Cnt w q n) (hn : n < 40) (hd : deep ≤ 5) :
    Calls Try.prog 39 #[.pointer (some ⟨q, 0, none⟩), .agg #[.int .i64 1, .int .i64 vn, .slice a2 0 p2, .slice a3 0 p3, .slice a4 0 p4], .int .i64 deep] w fun e w' => Ahead w q n 1 vn a2 a3 a4 0 0 0 p2 p3 p4 w' ∧ e = .returned (.tuple #[.nilIface, .bool false]) := by
  have HA : Hid (Cnt w q n) := hc
  obtain ⟨hc0, hf0⟩ := hc.cell
  have hne : q ≠ w.heap.size := by omega
  have hnn : ¬ (40 : Int) < (n : Int) + 1 := by omega
  have hdd : ¬ (5 : Int) < (deep : Int) := by omega
  have b0 : (vn == 0) = false := by simp [v0]
  have b1 : (vn == 1) = false := by simp [v1]
  clear hc
  go_enter Try.func39, Try.ntmps39
  go_wp2_with fail
  refine (impl_bare_any _ _ _ _ _ _ _ _ _ _ _ _).mono ?_
  rintro e w2 ⟨rfl, b2⟩
  have hA := ahead_of rfl hq HA.out b2
  rw [show bareB 1 vn 0 0 0 = true from by simp [bareB, *]]
  obtain ⟨y0, y1, y2, y3, y4, _⟩ := row5 hA.2.2
  have HAh := hide' hA
  clear b2 hA
  go_wp2
  go_ret2
  exact ⟨HAh.out, rfl⟩

set_option maxHeartbeats 4000000 in
set_option maxRecDepth 100000 in
theorem take_int (q n : Nat) (vn : Int) (v0 : -1000000000000 ≤ vn) (v1 : vn ≤ 1000000000000) (a2 a3 a4 : Option Addr) (p2 p3 p4 : Nat) (deep : Nat) (w : World) (hq : q < w.heap.size) (hc : Cnt w q n) (hn : n < 40) (hd : deep ≤ 5) :
    Calls Try.prog 39 #[.pointer (some ⟨q, 0, none⟩), .agg #[.int .i64 2, .int .i64 vn, .slice a2 0 p2, .slice a3 0 p3, .slice a4 0 p4], .int .i64 deep] w fun e w' => Ahead w q n 2 vn a2 a3 a4 0 0 0 p2 p3 p4 w' ∧ e = .returned (.tuple #[.iface 78 (.agg #[.int .i64 vn]), .bool true]) := by
  have HA : Hid (Cnt w q n) := hc
  obtain ⟨hc0, hf0⟩ := hc.cell
  have hne : q ≠ w.heap.size := by omega
  have hnn : ¬ (40 : Int) < (n : Int) + 1 := by omega
  have hdd : ¬ (5 : Int) < (deep : Int) := by omega
  clear hc
  go_enter Try.func39, Try.ntmps39
  go_wp2_with fail
  refine (impl_bare_any _ _ _ _ _ _ _ _ _ _ _ _).mono ?_
  rintro e w2 ⟨rfl, b2⟩
  have hA := ahead_of rfl hq HA.out b2
  rw [show bareB 2 vn 0 0 0 = true from by simp [bareB, *]]
  obtain ⟨y0, y1, y2, y3, y4, _⟩ := row5 hA.2.2
  have HAh := hide' hA
  clear b2 hA
  go_wp2
  go_ret2
  exact ⟨HAh.out, rfl⟩

set_option maxHeartbeats 4000000 in
set_option maxRecDepth 100000 in
theorem take_intlow (q n : Nat) (vn : Int) (v0 : ¬ -1000000000000 ≤ vn) (a2 a3 a4 : Option Addr) (p2 p3 p4 : Nat) (deep : Nat) (w : World) (hq : q < w.heap.size) (hc : Cnt w q n) (hn : n < 40) (hd : deep ≤ 5) :
    Calls Try.prog 39 #[.pointer (some ⟨q, 0, none⟩), .agg #[.int .i64 2, .int .i64 vn, .slice a2 0 p2, .slice a3 0 p3, .slice a4 0 p4], .int .i64 deep] w fun e w' => Ahead w q n 2 vn a2 a3 a4 0 0 0 p2 p3 p4 w' ∧ e = .returned (.tuple #[.nilIface, .bool false]) := by
  have HA : Hid (Cnt w q n) := hc
  obtain ⟨hc0, hf0⟩ := hc.cell
  have hne : q ≠ w.heap.size := by omega
  have hnn : ¬ (40 : Int) < (n : Int) + 1 := by omega
  have hdd : ¬ (5 : Int) < (deep : Int) := by omega
  clear hc
  go_enter Try.func39, Try.ntmps39
  go_wp2_with fail
  refine (impl_bare_any _ _ _ _ _ _ _ _ _ _ _ _).mono ?_
  rintro e w2 ⟨rfl, b2⟩
  have hA := ahead_of rfl hq HA.out b2
  rw [show bareB 2 vn 0 0 0 = true from by simp [bareB, *]]
  obtain ⟨y0, y1, y2, y3, y4, _⟩ := row5 hA.2.2
  have HAh := hide' hA
  clear b2 hA
  go_wp2
  go_ret2
  exact ⟨HAh.out, rfl⟩

set_option maxHeartbeats 4000000 in
set_option maxRecDepth 100000 in
theorem take_inthigh (q n : Nat) (vn : Int) (v0 : -1000000000000 ≤ vn) (v1 : ¬ vn ≤ 1000000000000) (a2 a3 a4 : Option Addr) (p2 p3 p4 : Nat) (deep : Nat) (w : World) (hq : q < w.heap.size) (hc : Cnt w q n) (hn : n < 40) (hd : deep ≤ 5) :
    Calls Try.prog 39 #[.pointer (some ⟨q, 0, none⟩), .agg #[.int .i64 2, .int .i64 vn, .slice a2 0 p2, .slice a3 0 p3, .slice a4 0 p4], .int .i64 deep] w fun e w' => Ahead w q n 2 vn a2 a3 a4 0 0 0 p2 p3 p4 w' ∧ e = .returned (.tuple #[.nilIface, .bool false]) := by
  have HA : Hid (Cnt w q n) := hc
  obtain ⟨hc0, hf0⟩ := hc.cell
  have hne : q ≠ w.heap.size := by omega
  have hnn : ¬ (40 : Int) < (n : Int) + 1 := by omega
  have hdd : ¬ (5 : Int) < (deep : Int) := by omega
  clear hc
  go_enter Try.func39, Try.ntmps39
  go_wp2_with fail
  refine (impl_bare_any _ _ _ _ _ _ _ _ _ _ _ _).mono ?_
  rintro e w2 ⟨rfl, b2⟩
  have hA := ahead_of rfl hq HA.out b2
  rw [show bareB 2 vn 0 0 0 = true from by simp [bareB, *]]
  obtain ⟨y0, y1, y2, y3, y4, _⟩ := row5 hA.2.2
  have HAh := hide' hA
  clear b2 hA
  go_wp2
  go_ret2
  exact ⟨HAh.out, rfl⟩

set_option maxHeartbeats 4000000 in
set_option maxRecDepth 100000 in
theorem take_none (q n : Nat) (vk : Int) (k0 : ¬ vk = 0) (k1 : ¬ vk = 1) (k2 : ¬ vk = 2) (k3 : ¬ vk = 3) (k4 : ¬ vk = 4) (k5 : ¬ vk = 5) (k6 : ¬ vk = 6) (a2 a3 a4 : Option Addr) (p2 p3 p4 : Nat) (deep : Nat) (w : World) (hq : q < w.heap.size) (hc : Cnt w q n) (hn : n < 40) (hd : deep ≤ 5) :
    Calls Try.prog 39 #[.pointer (some ⟨q, 0, none⟩), .agg #[.int .i64 vk, .int .i64 0, .slice a2 0 p2, .slice a3 0 p3, .slice a4 0 p4], .int .i64 deep] w fun e w' => Ahead w q n vk 0 a2 a3 a4 0 0 0 p2 p3 p4 w' ∧ e = .returned (.tuple #[.nilIface, .bool false]) := by
  have HA : Hid (Cnt w q n) := hc
  obtain ⟨hc0, hf0⟩ := hc.cell
  have hne : q ≠ w.heap.size := by omega
  have hnn : ¬ (40 : Int) < (n : Int) + 1 := by omega
  have hdd : ¬ (5 : Int) < (deep : Int) := by omega
  clear hc
  go_enter Try.func39, Try.ntmps39
  go_wp2_with fail
  refine (impl_bare_any _ _ _ _ _ _ _ _ _ _ _ _).mono ?_
  rintro e w2 ⟨rfl, b2⟩
  have hA := ahead_of rfl hq HA.out b2
  rw [show bareB vk 0 0 0 0 = true from by simp [bareB, *]]
  obtain ⟨y0, y1, y2, y3, y4, _⟩ := row5 hA.2.2
  have HAh := hide' hA
  clear b2 hA
  go_wp2
  go_ret2
  exact ⟨HAh.out, rfl⟩

set_option maxHeartbeats 4000000 in
set_option maxRecDepth 100000 in
theorem take_text (q n : Nat) (N : Nat) (vs : List Int) (hNq : N ≤ q) (a2 a3 a4 : Option Addr) (p2 p3 p4 : Nat) (deep : Nat) (w : World) (hq : q < w.heap.size) (hc : Cnt w q n) (hn : n < 40) (hd : deep ≤ 5) (hs : TSeg (fun b => b < N) w (.slice a2 vs.length p2) vs) (htb : textB vs = true) :
    Calls Try.prog 39 #[.pointer (some ⟨q, 0, none⟩), .agg #[.int .i64 3, .int .i64 0, .slice a2 vs.length p2, .slice a3 0 p3, .slice a4 0 p4], .int .i64 deep] w fun e w' => Ahead w q n 3 0 a2 a3 a4 vs.length 0 0 p2 p3 p4 w' ∧ e = .returned (.tuple #[.iface 80 (.agg #[.string (strOf vs)]), .bool true]) := by
  have HA : Hid (Cnt w q n) := hc
  obtain ⟨hc0, hf0⟩ := hc.cell
  have hne : q ≠ w.heap.size := by omega
  have hnn : ¬ (40 : Int) < (n : Int) + 1 := by omega
  have hdd : ¬ (5 : Int) < (deep : Int) := by omega
  clear hc
  go_enter Try.func39, Try.ntmps39
  go_wp2_with fail
  refine (impl_bare_any _ _ _ _ _ _ _ _ _ _ _ _).mono ?_
  rintro e w2 ⟨rfl, b2⟩
  have hA := ahead_of rfl hq HA.out b2
  rw [show bareB 3 0 vs.length 0 0 = true from by simp [bareB, *]]
  obtain ⟨y0, y1, y2, y3, y4, _⟩ := row5 hA.2.2
  have HAh := hide' hA
  have hS : TSeg (fun b => b < N) w2 (.slice a2 vs.length p2) vs := hs.agree (agree_grown hA.1 hNq hq)
  obtain ⟨a', c', e', s', l', m', _, _⟩ := hS
  simp only [Value.slice.injEq, true_and] at e'
  obtain ⟨rfl, rfl⟩ := e'
  have hcv := conv_seg p2 s'
  have HT := hide' (impl_textOk_any a2 p2 vs w2 s' (by omega))
  rw [htb] at HT
  clear b2 hA s' hs
  go_wp2_with fail
  refine HT.out.mono ?_
  rintro e w3 ⟨rfl, e3⟩
  obtain rfl := e3
  go_wp2
  go_ret2
  exact ⟨HAh.out, rfl⟩

set_option maxHeartbeats 4000000 in
set_option maxRecDepth 100000 in
theorem take_textno (q n : Nat) (N : Nat) (vs : List Int) (hNq : N ≤ q) (a2 a3 a4 : Option Addr) (p2 p3 p4 : Nat) (deep : Nat) (w : World) (hq : q < w.heap.size) (hc : Cnt w q n) (hn : n < 40) (hd : deep ≤ 5) (hs : TSeg (fun b => b < N) w (.slice a2 vs.length p2) vs) (htb : textB vs = false) :
    Calls Try.prog 39 #[.pointer (some ⟨q, 0, none⟩), .agg #[.int .i64 3, .int .i64 0, .slice a2 vs.length p2, .slice a3 0 p3, .slice a4 0 p4], .int .i64 deep] w fun e w' => Ahead w q n 3 0 a2 a3 a4 vs.length 0 0 p2 p3 p4 w' ∧ e = .returned (.tuple #[.nilIface, .bool false]) := by
  have HA : Hid (Cnt w q n) := hc
  obtain ⟨hc0, hf0⟩ := hc.cell
  have hne : q ≠ w.heap.size := by omega
  have hnn : ¬ (40 : Int) < (n : Int) + 1 := by omega
  have hdd : ¬ (5 : Int) < (deep : Int) := by omega
  clear hc
  go_enter Try.func39, Try.ntmps39
  go_wp2_with fail
  refine (impl_bare_any _ _ _ _ _ _ _ _ _ _ _ _).mono ?_
  rintro e w2 ⟨rfl, b2⟩
  have hA := ahead_of rfl hq HA.out b2
  rw [show bareB 3 0 vs.length 0 0 = true from by simp [bareB, *]]
  obtain ⟨y0, y1, y2, y3, y4, _⟩ := row5 hA.2.2
  have HAh := hide' hA
  have hS : TSeg (fun b => b < N) w2 (.slice a2 vs.length p2) vs := hs.agree (agree_grown hA.1 hNq hq)
  obtain ⟨a', c', e', s', l', m', _, _⟩ := hS
  simp only [Value.slice.injEq, true_and] at e'
  obtain ⟨rfl, rfl⟩ := e'
  have hcv := conv_seg p2 s'
  have HT := hide' (impl_textOk_any a2 p2 vs w2 s' (by omega))
  rw [htb] at HT
  clear b2 hA s' hs
  go_wp2_with fail
  refine HT.out.mono ?_
  rintro e w3 ⟨rfl, e3⟩
  obtain rfl := e3
  go_wp2
  go_ret2
  exact ⟨HAh.out, rfl⟩
end Go.Proofs.Ytenfnbnhdmkhkaa
/-
  take of the program at lists and maps, and at every value; partOf, ValOk of the program.
-/
namespace Go.Proofs.Ytenfnbnhdmkhkaa
open Go.RowKit
set_option linter.unusedVariables false
set_option linter.unusedSimpArgs false

/-- What take says. -/
def TakeEnd (d : Nat) (v : Vl d) (deep n q : Nat) (w : World) (e : Ending) (w' : World) : Prop :=
  w.grownBy w' (some q) ∧ ((∃ p, e = .returned (.tuple #[p, .bool true]) ∧ Took d v deep n q w w' p) ∨ (e = .returned (.tuple #[.nilIface, .bool false]) ∧ ¬ (goodB d v deep = true ∧ n + partsV d v ≤ 40)))

set_option maxHeartbeats 4000000 in
set_option maxRecDepth 100000 in
theorem take_list (d : Nat) (ih : TakeAt d) (N q n : Nat) (x : Value) (vL : List (Vl d)) (a2 a3 : Option Addr) (p2 p3 : Nat) (deep : Nat) (w : World) (hx : LSeg (fun b => b < N) w d x vL) (hNq : N ≤ q) (hq : q < w.heap.size) (hc : Cnt w q n) (hn : n < 40) (hd : deep ≤ 5) :
    Calls Try.prog 39 #[.pointer (some ⟨q, 0, none⟩), .agg #[.int .i64 4, .int .i64 0, .slice a2 0 p2, .slice a3 0 p3, x], .int .i64 deep] w (TakeEnd (d + 1) (4, 0, [], [], vL) deep n q w) := by
  have HX := hide' hx
  obtain ⟨a4, p4, rfl, hlc, hcm, ka, _⟩ := hx
  unfold maxLen at hcm
  have HA : Hid (Cnt w q n) := hc
  have HI := hide' ih
  obtain ⟨hc0, hf0⟩ := hc.cell
  have hne : q ≠ w.heap.size := by omega
  have hnn : ¬ (40 : Int) < (n : Int) + 1 := by omega
  have hdd : ¬ (5 : Int) < (deep : Int) := by omega
  clear hc ih
  go_enter Try.func39, Try.ntmps39
  go_wp2_with fail
  refine (impl_bare_any _ _ _ _ _ _ _ _ _ _ _ _).mono ?_
  rintro e w2 ⟨rfl, b2⟩
  have hA := ahead_of rfl hq HA.out b2
  rw [show bareB 4 0 0 0 vL.length = true from by simp [bareB]]
  obtain ⟨y0, y1, y2, y3, y4, _⟩ := row5 hA.2.2
  have hs2 := hA.1.size
  have hT := takeAll_of d HI.out N q (n + 1) _ vL (deep + 1) w2 (HX.out.agree (agree_grown hA.1 hNq hq)) hNq (by omega) hA.2.1 (by omega) (by omega)
  rw [Int.natCast_add] at hT
  have HT := hide' hT
  have HAh := hide' hA
  clear b2 hA hT
  go_wp2_with fail
  refine HT.out.mono ?_
  rintro e w3 ⟨hg3, hcase⟩
  have hgf := grownBy_trans HAh.out.1 hg3
  rcases hcase with ⟨y, rfl, htook⟩ | ⟨rfl, hbad⟩
  · obtain ⟨hgood, hle, hcnt, a, cap, ps, rfl, hcell, hpp⟩ := htook
    have hG : goodB (d + 1) (4, 0, [], [], vL) deep = true := (good_succ _ _ _ _ _ _ _).2 ⟨hd, by simp [shapeB, bareB], hgood⟩
    have hP := parts_succ d 4 0 [] [] vL
    have hE : Hid (Took (d + 1) (4, 0, [], [], vL) deep n q w w3 (.iface 84 (.agg #[.slice a vL.length cap]))) := by
      have e1 : n + partsV (d + 1) (4, 0, [], [], vL) = n + 1 + pre (partsV d) vL vL.length := by rw [hP]; omega
      refine ⟨hG, by rw [e1]; omega, by rw [e1]; exact hcnt, .inr (.inr (.inr (.inr (.inr (.inl ⟨rfl, a, cap, rfl, ?_⟩)))))⟩
      rcases hcell with h0 | ⟨b, rfl, hb1, hb2, hcc⟩
      · exact .inl h0
      · refine .inr ⟨b, 0, rfl, ⟨by omega, hb2⟩, fun i hi => ⟨ps.getD i .nilIface, by rw [Nat.zero_add]; exact hcc i hi, PSeg.carry (fun b hb => ⟨by omega, hb.2⟩) (fun b _ => rfl) d (hpp i hi)⟩⟩
    clear hgood hle hcnt hcell hpp hG hP y0 y1 y2 y3 y4 HT HAh
    go_wp2
    go_ret2
    exact ⟨hgf, .inl ⟨_, rfl, hE.out⟩⟩
  · have hno : Hid (¬ (goodB (d + 1) (4, 0, [], [], vL) deep = true ∧ n + partsV (d + 1) (4, 0, [], [], vL) ≤ 40)) := fun ⟨h1, h2⟩ => hbad ⟨((good_succ _ _ _ _ _ _ _).1 h1).2.2, by rw [parts_succ] at h2; omega⟩
    clear hbad y0 y1 y2 y3 y4 HT HAh
    go_wp2
    go_ret2
    exact ⟨hgf, .inr ⟨rfl, hno.out⟩⟩

set_option maxHeartbeats 4000000 in
set_option maxRecDepth 100000 in
theorem take_map (d : Nat) (ih : TakeAt d) (N q n : Nat) (z x : Value) (vK : List (List Int)) (vL : List (Vl d)) (a2 : Option Addr) (p2 : Nat) (deep : Nat) (w : World) (hz : KSeg (fun b => b < N) w z vK) (hx : LSeg (fun b => b < N) w d x vL) (hNq : N ≤ q) (hq : q < w.heap.size) (hc : Cnt w q n) (hn : n < 40) (hd : deep ≤ 5) :
    Calls Try.prog 39 #[.pointer (some ⟨q, 0, none⟩), .agg #[.int .i64 5, .int .i64 0, .slice a2 0 p2, z, x], .int .i64 deep] w (TakeEnd (d + 1) (5, 0, [], vK, vL) deep n q w) := by
  have HX := hide' hx
  have HZ := hide' hz
  obtain ⟨a4, p4, rfl, hlc, hcm, ka, _⟩ := hx
  obtain ⟨a3, p3, rfl, hlc3, hcm3, ka3, _⟩ := hz
  unfold maxLen at hcm hcm3
  have HA : Hid (Cnt w q n) := hc
  have HI := hide' ih
  obtain ⟨hc0, hf0⟩ := hc.cell
  have hne : q ≠ w.heap.size := by omega
  have hnn : ¬ (40 : Int) < (n : Int) + 1 := by omega
  have hdd : ¬ (5 : Int) < (deep : Int) := by omega
  clear hc ih
  go_enter Try.func39, Try.ntmps39
  go_wp2_with fail
  refine (impl_bare_any _ _ _ _ _ _ _ _ _ _ _ _).mono ?_
  rintro e w2 ⟨rfl, b2⟩
  have hA := ahead_of rfl hq HA.out b2
  rw [show bareB 5 0 0 vK.length vL.length = true from by simp [bareB]]
  obtain ⟨y0, y1, y2, y3, y4, _⟩ := row5 hA.2.2
  have hs2 := hA.1.size
  have HT := hide' (takeMap_of d HI.out N q (n + 1) 5 0 a2 0 p2 _ _ vK vL deep w2 (HZ.out.agree (agree_grown hA.1 hNq hq)) (HX.out.agree (agree_grown hA.1 hNq hq)) hNq (by omega) hA.2.1 (by omega) hd)
  have HAh := hide' hA
  clear b2 hA
  go_wp2_with fail
  refine HT.out.mono ?_
  rintro e w3 ⟨hg3, hcase⟩
  have hgf := grownBy_trans HAh.out.1 hg3
  have hP := parts_succ d 5 0 [] vK vL
  rcases hcase with ⟨y, rfl, hkl, has, hgood, hle, hcnt, hps⟩ | ⟨rfl, hbad⟩
  · have hG : goodB (d + 1) (5, 0, [], vK, vL) deep = true := (good_succ _ _ _ _ _ _ _).2 ⟨hd, by rw [shape_map hkl]; exact has, hgood⟩
    have hE : Hid (Took (d + 1) (5, 0, [], vK, vL) deep n q w w3 y) := by
      have e1 : n + partsV (d + 1) (5, 0, [], vK, vL) = n + 1 + pre (partsV d) vL vL.length := by rw [hP]; omega
      exact ⟨hG, by rw [e1]; omega, by rw [e1]; exact hcnt, PSeg.carry (fun b hb => ⟨by omega, hb.2⟩) (fun b _ => rfl) (d + 1) hps⟩
    clear hgood hle hcnt hps hG hP has hkl y0 y1 y2 y3 y4 HT HAh
    go_wp2
    go_ret2
    exact ⟨hgf, .inl ⟨_, rfl, hE.out⟩⟩
  · have hno : Hid (¬ (goodB (d + 1) (5, 0, [], vK, vL) deep = true ∧ n + partsV (d + 1) (5, 0, [], vK, vL) ≤ 40)) := fun ⟨h1, h2⟩ => hbad (by
      obtain ⟨_, g2, g3⟩ := (good_succ _ _ _ _ _ _ _).1 h1
      by_cases hkl : vK.length = vL.length
      · rw [shape_map hkl] at g2
        exact ⟨hkl, g2, g3, by rw [hP] at h2; omega⟩
      · rw [shape_map_no hkl] at g2
        simp at g2)
    clear hbad hP y0 y1 y2 y3 y4 HT HAh
    go_wp2
    go_ret2
    exact ⟨hgf, .inr ⟨rfl, hno.out⟩⟩
end Go.Proofs.Ytenfnbnhdmkhkaa
