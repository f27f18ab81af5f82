/-
  takeMap of the program, walked: it takes a map in.
-/
import Derived.Test.YtkklhdeecamifaaTakeB
namespace Go.Proofs.Ytkklhdeecamifaa
open Go.RowKit
set_option linter.unusedVariables false
set_option linter.unusedSimpArgs false

/-- What a good takeMap has brought about. -/
def TookMap (d : Nat) (vK : List (List Int)) (vL : List (Vl d)) (deep n q : Nat) (w w' : World) (p : Value) : Prop :=
  vK.length = vL.length ∧ ascB vK = true ∧ (∀ j (h : j < vL.length), goodB d vL[j] (deep + 1) = true) ∧ n + pre (partsV d) vL vL.length ≤ 40 ∧ Cnt w' q (n + pre (partsV d) vL vL.length) ∧
    PSeg (fun b => w.heap.size ≤ b ∧ b < w'.heap.size) w' (d + 1) p (5, 0, [], vK, vL)

/-- It is no map that may be. -/
def NoMap (d : Nat) (vK : List (List Int)) (vL : List (Vl d)) (deep n : Nat) : Prop := ¬ (vK.length = vL.length ∧ ascB vK = true ∧ (∀ j (h : j < vL.length), goodB d vL[j] (deep + 1) = true) ∧ n + pre (partsV d) vL vL.length ≤ 40)

theorem keyS (xs : List Int) (h : xs.length ≤ maxLen) : Go.keyOf Try.prog 9 (.string (strOf xs)) = some (.string (u8s xs)) :=
  WideMaps.keyOf_string_mk Try.underlying9 (by show (xs.map _).toArray.size ≤ maxLen; rw [List.size_toArray, List.length_map]; exact h)

theorem agree_box {N q : Nat} {w w' : World} {o : Obj} (h : (w.alloc o).grownBy w' (some q)) (hN : N ≤ q) (hq : q < w.heap.size) : Agree (fun b => b < N) w w' := fun b hb =>
  (h.block b (by simp; omega) (by simp; omega)).trans ((World.grownBy_alloc w o none).block b (by omega) (by simp))

set_option maxHeartbeats 4000000 in
theorem takeMap_of (d : Nat) (ih : TakeAt d) (N q n : Nat) (vk vn : Int) (a2 : Option Addr) (l2 p2 : Nat) (z x : Value) (vK : List (List Int)) (vL : List (Vl d)) (deep : Nat) (w : World) (hz : KSeg (fun b => b < N) w z vK) (hx : LSeg (fun b => b < N) w d x vL) (hNq : N ≤ q) (hq : q < w.heap.size) (hc : Cnt w q n) (hn : n ≤ 40) (hd : deep ≤ 5) :
    Calls Try.prog 57 #[.pointer (some ⟨q, 0, none⟩), .agg #[.int .i64 vk, .int .i64 vn, .slice a2 l2 p2, z, x], .int .i64 deep] w fun e w' =>
      w.grownBy w' (some q) ∧ ((∃ p, e = .returned (.tuple #[p, .bool true]) ∧ TookMap d vK vL deep n q w w' p) ∨ (e = .returned (.tuple #[.nilIface, .bool false]) ∧ NoMap d vK vL deep n)) := by
  have HX := hide' hx
  have HZ := hide' hz
  obtain ⟨a4, p4, rfl, hlc, hcm, ka, _⟩ := hx
  obtain ⟨a3, p3, rfl, hlc3, hcm3, ka3, _⟩ := hz
  unfold maxLen at hcm hcm3
  generalize hO : Obj.cells #[.int .i64 vk, .int .i64 vn, .slice a2 l2 p2, .slice a3 vK.length p3, .slice a4 vL.length p4] 30 = ob
  have HOb := hide' hO
  have gB : w.grownBy (w.alloc ob) (some q) := World.grownBy_alloc w ob (some q)
  have agB : Agree (fun b => b < N) w (w.alloc ob) := fun b hb => gB.block b (by omega) (by simp; omega)
  have HG := hide' gB
  by_cases hkl : vK.length = vL.length
  · have HA : Hid (Calls Try.prog 63 #[.slice a3 vK.length p3] (w.alloc ob) fun e w' => e = .returned (.bool (ascB vK)) ∧ w.alloc ob = w') := ascendingNames_any _ _ vK _ (HZ.out.agree agB)
    have HT : Hid (Calls Try.prog 56 #[.pointer (some ⟨q, 0, none⟩), .slice a4 vL.length p4, .int .i64 ((deep : Int) + 1)] (w.alloc ob) fun e w' =>
        (w.alloc ob).grownBy w' (some q) ∧ ((∃ y, e = .returned (.tuple #[y, .bool true]) ∧ TookAll d vL (deep + 1) n q (w.alloc ob) w' y) ∨ (e = .returned (.tuple #[.slice none 0 0, .bool false]) ∧ ¬ ((∀ j (h : j < vL.length), goodB d vL[j] (deep + 1) = true) ∧ n + pre (partsV d) vL vL.length ≤ 40)))) := by
      have := takeAll_of d ih N q n _ vL (deep + 1) (w.alloc ob) (HX.out.agree agB) hNq (by simp; omega) (hc.keep (World.grownBy_alloc w ob none) (by simp)) hn (by omega)
      rw [Int.natCast_add] at this
      exact this
    have HKL := hide' hkl
    rw [hkl] at HA hlc3
    rw [hkl] at hO HOb
    rw [hkl] at HZ
    clear ih hc agB gB
    by_cases has : ascB vK = true
    · rw [has] at HA
      have HAs := hide' has
      clear has
      rw [hkl]
      subst hO
      clear hkl
      go_enter Try.func57, Try.ntmps57
      go_wp2_with fail
      refine HA.out.mono ?_
      rintro e w1 ⟨rfl, e1⟩
      obtain rfl := e1
      go_wp2_with fail
      refine HT.out.mono ?_
      rintro e w1 ⟨hg1, hcase⟩
      rcases hcase with ⟨y, rfl, htook⟩ | ⟨rfl, hbad⟩
      · obtain ⟨hgood, hle, hcnt, a, cap, ps, rfl, hcell, hpp⟩ := htook
        have hlen : vL.length ≤ 40 := by have := pre_ge d vL vL.length (Nat.le_refl _); omega
        have hq1 : q < w1.heap.size := by have := hg1.size; simp at this; omega
        have hbx : w.heap.size < w1.heap.size := by have := hg1.size; simp at this; omega
        have hmk := run_makeMapN 51 9 57 (vL.length : Int) w1 Try.underlying51
        have hM0 : (w1.alloc (.map #[] 0)).ownsMap Try.prog 9 tokR w1.heap.size 0 (mapD vK ps 0) := World.ownsMap_made w1 Try.prog 9 tokR
        have HGo := hide' hgood
        have HLe := hide' hle
        have HCn := hide' hcnt
        have HCe := hide' hcell
        have HPp := hide' hpp
        have HG1 := hide' hg1
        clear hgood hle hcnt hcell hpp HA HT
        go_wp2
        go_loopw [42] (fun i wr => ∃ k : Nat, k ≤ vL.length ∧ i = .int .i64 k ∧ wr.ownsMap Try.prog 9 tokR w1.heap.size k (mapD vK ps k) ∧ Hid ((w1.alloc (.map #[] 0)).grownBy wr (some w1.heap.size))) (fun i _ => vL.length - (intOf i).toNat)
        case atStart => exact ⟨0, Nat.zero_le _, rfl, hM0, World.grownBy.refl _ _⟩
        case round =>
          obtain ⟨k, hk, rfl, hown, hgr⟩ := hrel
          clear hM0
          have hal1 : w1.grownBy (w1.alloc (.map #[] 0)) none := World.grownBy_alloc w1 _ none
          have hlow : ∀ b, b < w1.heap.size → wr.heap[b]? = w1.heap[b]? := fun b hb => (hgr.out.block b (by simp; omega) (by simp; omega)).trans (hal1.block b hb (by simp))
          have HLow := hide' hlow
          by_cases hlt : k < vL.length
          · have hlt' : (k : Int) < (vL.length : Int) := by omega
            have hit : ∃ b, a = some ⟨b, 0, none⟩ ∧ wr.cell? ⟨b, k, none⟩ = some (ps.getD k .nilIface) := by
              rcases HCe.out with h0 | ⟨b, rfl, _, hb, hcc⟩
              · rw [h0] at hlt; simp at hlt
              · exact ⟨b, rfl, (World.cell?_of_block (hlow b hb)).trans (hcc k hlt)⟩
            obtain ⟨ib, rfl, hitem⟩ := hit
            have hag : Agree (fun b => b < N) w wr := fun b hb => (hlow b (by omega)).trans (agree_box HG1.out hNq hq b hb)
            have hKr : KSeg (fun b => b < N) wr (.slice a3 vL.length p3) vK := HZ.out.agree hag
            have hltK : k < vK.length := by have := HKL.out; omega
            obtain ⟨kb, ko, rfl, hat⟩ := hKr.at hltK
            obtain ⟨s2, e2, hu, g2, m2⟩ := hat k hltK
            have hrow : wr.heap[w.heap.size]? = some (.cells #[.int .i64 vk, .int .i64 vn, .slice a2 l2 p2, .slice (some ⟨kb, ko, none⟩) vL.length p3, .slice a4 vL.length p4] 30 (0, 0)) :=
              (hlow w.heap.size hbx).trans ((HG1.out.block w.heap.size (by simp) (by simp; omega)).trans (MapKept.heap_alloc w _).1)
            obtain ⟨y0, y1, y2, y3, y4, _⟩ := row5 hrow
            have hcv := conv_seg e2 g2
            have hkey := keyS (vK.getD k []) m2
            have HD : Hid (mapD vK ps (k + 1) = (mapD vK ps k).put (.string (u8s (vK.getD k []))) (.held (ps.getD k .nilIface))) := rfl
            have HP := hide' (HPp.out k hlt)
            obtain ⟨pt, px, hpx⟩ := HP.out.shape
            rw [hpx] at hitem HD
            generalize vK.getD k [] = ys at *
            clear hlow hag hKr hat hrow g2 hal1 hpx HP
            go_wp2_with (at_mapUpdate; refine wpList_mapUpdate_own _ rfl _ _ _ 51 rfl 9 57 (Maps.string_keyed Try.underlying9) Try.underlying51 tokR w1.heap.size k _ rfl hown (by unfold maxLen; omega) _ _ _ rfl rfl hkey _ [] rfl ?_; intro w3 hown3 hg3)
            have hown4 : w3.ownsMap Try.prog 9 tokR w1.heap.size (k + 1) (mapD vK ps (k + 1)) := by rw [HD.out]; exact hown3
            have hgr3 : Hid ((w1.alloc (.map #[] 0)).grownBy w3 (some w1.heap.size)) := grownBy_trans hgr.out hg3
            clear hown3 hg3 hown hgr hkey hcv hitem y0 y1 y2 y3 y4 hu
            go_wp2
            go_roundw
            case rel => exact ⟨k + 1, by omega, by go_num, hown4, hgr3⟩
            case measure => simp [intOf]; omega
          · have hkn : k = vL.length := by omega
            have hlt' : ¬ (k : Int) < (vL.length : Int) := by omega
            have hsz3 : w1.heap.size + 1 ≤ wr.heap.size := by have := hgr.out.size; simpa using this
            have hsz1 : w.heap.size + 1 ≤ w1.heap.size := by omega
            have hP : PSeg (fun b => w.heap.size ≤ b ∧ b < wr.heap.size) wr (d + 1) (.iface 53 (.agg #[.map (some w1.heap.size)])) (5, 0, [], vK, vL) := by
              refine .inr (.inr (.inr (.inr (.inr (.inr ⟨rfl, w1.heap.size, ps, rfl, ⟨by omega, by omega⟩, ?_, fun i hi => ?_⟩)))))
              · have := hown.mono (n' := 64) (by omega)
                rw [hkn] at this
                exact this
              · refine PSeg.carry (fun b hb => ⟨?_, ?_⟩) (fun b hb => hlow b hb.2) d (HPp.out i hi)
                · have := hb.1
                  simp at this
                  omega
                · have := hb.2
                  omega
            have hcn : Cnt wr q (n + pre (partsV d) vL vL.length) := (hlow q hq1).trans HCn.out
            have hgf : w.grownBy wr (some q) := grownBy_fresh (grownBy_fresh (grownBy_trans HG.out HG1.out) hal1 (by simp)) hgr.out (by intro j hj; simp at hj; omega)
            have HF : Hid (TookMap d vK vL deep n q w wr (.iface 53 (.agg #[.map (some w1.heap.size)]))) := ⟨HKL.out, HAs.out, HGo.out, HLe.out, hcn, hP⟩
            clear hkn hP hlow hal1 hcn
            go_wp2
            go_ret2
            exact ⟨hgf, .inl ⟨_, rfl, HF.out⟩⟩
      · have hgf := grownBy_trans HG.out hg1
        have hno : NoMap d vK vL deep n := fun h => hbad h.2.2
        go_wp2
        go_ret2
        exact ⟨hgf, .inr ⟨rfl, hno⟩⟩
    · have has' : ascB vK = false := by simpa using has
      rw [has'] at HA
      have hno : NoMap d vK vL deep n := fun h => has h.2.1
      have Hno := hide' hno
      clear has has' hno
      rw [hkl]
      subst hO
      clear hkl HT
      go_enter Try.func57, Try.ntmps57
      go_wp2_with fail
      refine HA.out.mono ?_
      rintro e w1 ⟨rfl, e1⟩
      obtain rfl := e1
      go_wp2
      go_ret2
      exact ⟨HG.out, .inr ⟨rfl, Hno.out⟩⟩
  · have hne : ¬ (vK.length : Int) = (vL.length : Int) := by omega
    have Hno : Hid (NoMap d vK vL deep n) := fun h => hkl h.1
    subst hO
    clear ih hkl agB gB
    go_enter Try.func57, Try.ntmps57
    go_wp2
    go_ret2
    exact ⟨HG.out, .inr ⟨rfl, Hno.out⟩⟩
end Go.Proofs.Ytkklhdeecamifaa
