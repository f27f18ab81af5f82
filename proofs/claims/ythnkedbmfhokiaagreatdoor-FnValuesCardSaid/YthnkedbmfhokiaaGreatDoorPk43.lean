/-
  Texts that a law leans on, one behind the other; no statement is proved here.
-/
import Derived.Test.YthnkedbmfhokiaaGreatDoorPk42
/-
  ValText of the program: appendPart of a list.
-/
namespace Go.Proofs.YthnkedbmfhokiaaGreatDoor
open Go.RowKit Go.Shelf
set_option linter.unusedVariables false
set_option linter.unusedSimpArgs false

theorem row1c {w : World} {b : Nat} {c : Value} {t : TypeId} (h : w.heap[b]? = some (.cells #[c] t (0, 0))) : w.cell? ⟨b, 0, none⟩ = some c := by
  rw [cell_of_row w b 0 _ _ _ h]
  rfl

set_option maxHeartbeats 3000000 in
set_option maxRecDepth 100000 in
theorem appendPart_list (d : Nat) (ih : PSayAt d) (N B : Nat) (a : Option Addr) (c : Nat) (xs : List Int) (vK : List (List Int)) (vL : List (Vl d)) (la : Option Addr) (lc : Nat) (deep : Nat) (w : World) (hN : N ≤ B) (hBw : B ≤ w.heap.size) (hB : Bts w B (.slice a xs.length c) xs)
    (hL : PLSeg (fun b => b < N) w d (.slice la vL.length lc) vL) (hg : ∀ j (h : j < vL.length), goodB d vL[j] deep = true) (hp : 1 + pre (partsV d) vL vL.length ≤ 40) (hn : vL.length ≤ 40) (hlen : xs.length + 60 * (1 + pre (partsV d) vL vL.length) ≤ 900000) (ht : Tab B w) :
    Calls Tryz.prog 20 #[.slice a xs.length c, .iface 74 (.agg #[.slice la vL.length lc])] w (ApEnd B (xs ++ 91 :: (kidS (sayV d) false vK vL vL.length ++ [93])) w) := by
  have t1 := nonull_listPart (.agg #[.slice la vL.length lc])
  have t2 := nobool_listPart (.agg #[.slice la vL.length lc])
  have t3 := noint_listPart (.agg #[.slice la vL.length lc])
  have t4 := notext_listPart (.agg #[.slice la vL.length lc])
  have t5 := is_listPart (.agg #[.slice la vL.length lc])
  have HI := hide' ih
  have HG := hide' hg
  have HL := hide' hL
  have HTb := hide' ht
  have HPk : Hid (∀ k (h : k < vL.length), partsV d vL[k] ≤ 40) := fun k h => by
    have h3 := pre_succ (partsV d) vL k h
    have h4 := pre_le (partsV d) vL (k + 1)
    have h5 := pre_all (partsV d) vL
    omega
  have HRoom : Hid (∀ k (h : k < vL.length), xs.length + 1 + (kidS (sayV d) false vK vL k).length + 2 + 60 * partsV d vL[k] ≤ 900000) := fun k h => by
    have h1 := kidS_len (sayV d) (partsV d) false vK vL (fun h => by simp at h) (fun j h => sayV_len d vL[j] deep (hg j h)) k (by omega)
    have h3 := pre_succ (partsV d) vL k h
    have h4 := pre_le (partsV d) vL (k + 1)
    have h5 := pre_all (partsV d) vL
    omega
  have HKn : Hid (∀ k, k ≤ vL.length → (kidS (sayV d) false vK vL k).length ≤ 2400) := fun k h => by
    have h1 := kidS_len (sayV d) (partsV d) false vK vL (fun h => by simp at h) (fun j h => sayV_len d vL[j] deep (hg j h)) k h
    have h4 := pre_le (partsV d) vL k
    have h5 := pre_all (partsV d) vL
    omega
  have HStp : Hid (∀ k (h : k < vL.length), kidS (sayV d) false vK vL (k + 1) = kidS (sayV d) false vK vL k ++ (aheadS false vK k ++ sayV d vL[k])) := fun k h => kidS_succ _ _ _ _ k h
  have HZ : Hid (kidS (sayV d) false vK vL 0 = []) := rfl
  generalize hkid : kidS (sayV d) false vK vL = kid at *
  have HB : Hid (∀ o o' : Obj, Bts ((w.alloc o).alloc o') B (.slice a xs.length c) xs) := fun o o' => (hB.alloc o).alloc o'
  have hS1 : Hid (∀ o : Obj, Seg ((w.alloc o).alloc (.cells #[.int .u8 91] 5)) (some ⟨w.heap.size + 1, 0, none⟩) [91]) := fun o => by
    have h := seg_one (w.alloc o) 91 (by unfold Byt; omega)
    simp only [World.size_alloc] at h
    exact h
  have hbC : Hid (∀ o o' : Obj, Below B w ((w.alloc o).alloc o')) := fun o o' => ((Below.refl _ _).alloc hBw o).alloc (by simp; omega) o'
  have Hbx : Hid (∀ o o2 : Obj, ((w.alloc o).alloc o2).heap[w.heap.size]? = some o) := fun o o2 => (Below.heap_alloc _ _ _ (by simp)).trans (MapKept.heap_alloc w o).1
  have HOwn := hide' hB.own
  have Hneq : Hid (some w.heap.size ≠ (Value.slice a xs.length c).ownBlock) := fun e => by have := (hB.2.lt _ e.symm).2; omega
  obtain ⟨res, hres⟩ : ∃ res, res = xs ++ 91 :: (kid vL.length ++ [93]) := ⟨_, rfl⟩
  have HRes := hide' hres
  rw [← hres]
  have hxl : xs.length ≤ 900000 := by omega
  clear hL hg ih hkid hp ht hB hres hlen
  go_enter Tryz.func20, Tryz.ntmps20
  go_wp2_with (at_builtin; refine wpList_append_seg rfl (.tmp 47) (.tmp 48) (by rfl) B (.slice a xs.length c) xs [91] (by rfl) (HB.out _ _) _ 1 1 rfl (by rfl) (hS1.out _) (by simp) (by simp; omega) (by simp; omega) ?_; intro v1 w1 hv1 hg1; have hb1 := hide' ((hbC.out _ _).grown hg1 (by simp; omega) HOwn.out); have hx1 := (hg1.block w.heap.size (by simp; omega) Hneq.out).trans (Hbx.out _ _); have cx1 := row1c hx1; have hk1 := hide' (kept_app2 (Kept.refl w) (HB.out _ _) hg1); replace hv1 := hide' hv1; clear hg1 hx1)
  go_loopw [0, 53] (fun y i wr => ∃ k : Nat, k ≤ vL.length ∧ i = .int .i64 k ∧ Hid (Bts wr B y (xs ++ 91 :: kid k)) ∧ Hid (Below B w wr) ∧ Hid (Kept w wr)) (fun _ i _ => vL.length - (intOf i).toNat)
  case atStart => exact ⟨0, Nat.zero_le _, rfl, by rw [HZ.out]; exact hv1, hb1, hk1⟩
  case round =>
    clear cx1 hv1 hb1 hk1
    obtain ⟨k, hk, rfl, hB, hbel, hkp⟩ := hrel
    obtain ⟨ya, yc, rfl, _, _, _, _, kk⟩ := hB.out.shape
    have hz : B ≤ wr.heap.size := by have := hbel.out.size; omega
    have hkn := HKn.out k hk
    have HOwn := hide' hB.out.own
    obtain ⟨zs, hzs⟩ : ∃ zs, zs = xs ++ 91 :: kid k := ⟨_, rfl⟩
    have hzl : zs.length = (xs ++ 91 :: kid k).length := by rw [hzs]
    have hzn : zs.length = xs.length + 1 + (kid k).length := by rw [hzs]; simp; omega
    rw [← hzs] at hB HOwn
    rw [← hzl]
    by_cases hlt : k < vL.length
    · have hlt' : (k : Int) < (vL.length : Int) := by omega
      have hroom := HRoom.out k hlt
      obtain ⟨b, off, t, px, rfl, hR, hc, hps⟩ := HL.out.at hlt
      have hcell := (cell_agree (agree_below (hbel.out.mono hN)) hR).trans hc
      have hst := HStp.out k hlt
      obtain ⟨ys, hys⟩ : ∃ ys, ys = zs ++ (if k = 0 then [] else [44, 32]) := ⟨_, rfl⟩
      have hyl : ys.length ≤ zs.length + 2 := by rw [hys]; split <;> simp
      have HC1 := hide' (appendComma_any B k ya yc zs ys wr hB.out hz (by omega) (by omega) (fun h => by rw [hys, if_pos h]; simp) (fun h => by rw [hys, if_neg h]))
      have HC2 : Hid (∀ a1 c1 wx, Bts wx B (.slice a1 ys.length c1) ys → Below B w wx → Calls Tryz.prog 20 #[.slice a1 ys.length c1, .iface t px] wx (ApEnd B (xs ++ 91 :: kid (k + 1)) wx)) := fun a1 c1 wx h hb => by
        have e : xs ++ 91 :: kid (k + 1) = ys ++ sayV d vL[k] := by rw [hst, hys, hzs]; simp [aheadS]
        rw [e]
        exact HI.out N B a1 c1 ys (.iface t px) vL[k] deep wx (PSeg.carry (fun b h => h) (agree_below (hb.mono hN)) d hps) hN (by have := hb.size; omega) h (HG.out k hlt) (HPk.out k hlt) (by omega) (Lib.TabBelow.on HTb.out hb)
      clear hst hys hzs hzl hzn hroom hkn hps hc
      go_wp2_with fail
      refine HC1.out.mono ?_
      rintro e w5 ⟨a5, c5, rfl, hv5, hb5, hk5⟩
      have hkp5 := hide' (hkp.out.trans hk5)
      have Hb5 := hide' (hbel.out.trans hb5)
      have HC3 := hide' (HC2.out a5 c5 w5 hv5 Hb5.out)
      generalize ys.length = m5 at *
      clear hv5 hb5 HC1 HC2 hk5
      go_wp2_with fail
      refine HC3.out.mono ?_
      rintro e w6 ⟨a6, c6, rfl, hv6, hb6, hk6⟩
      have hkp6 := hide' (hkp5.out.trans hk6)
      have Hb6 := hide' (Hb5.out.trans hb6)
      have Hv6 := hide' hv6
      generalize (xs ++ 91 :: kid (k + 1)).length = m6 at *
      clear hv6 hb6 HC3 hcell hk6
      go_wp2
      go_roundw
      case rel => exact ⟨k + 1, by omega, by go_num, Hv6, Hb6, hkp6⟩
      case measure => simp [intOf]; omega
    · have hkn' : k = vL.length := by omega
      have hlt' : ¬ (k : Int) < (vL.length : Int) := by omega
      have HF : Hid (res = zs ++ [93]) := by show _ = _; rw [HRes.out, hzs, hkn']; simp
      have hS93 := seg_one wr 93 (by unfold Byt; omega)
      have hA93 := hB.out.alloc (.cells #[.int .u8 93] 5)
      have hbA : Hid (∀ o : Obj, Below B w (wr.alloc o)) := fun o => hbel.out.alloc hz o
      clear hkn' hzs hzl
      go_wp2_with (at_builtin; refine wpList_append_seg rfl _ _ (by rfl) B (.slice ya zs.length yc) zs [93] (by rfl) hA93 _ 1 1 rfl (by rfl) hS93 (by simp) (by simp; omega) (by simp; omega) ?_; intro v2 w2 hv2 hg2; have hb2 := hide' ((hbA.out _).grown hg2 (by simp; omega) HOwn.out); have hk2 := hide' (kept_app hkp.out hA93 hg2); replace hv2 := hide' hv2; clear hg2)
      go_ret
      rw [HF.out]
      exact apEnd_of hv2.out hb2.out hk2.out
end Go.Proofs.YthnkedbmfhokiaaGreatDoor
