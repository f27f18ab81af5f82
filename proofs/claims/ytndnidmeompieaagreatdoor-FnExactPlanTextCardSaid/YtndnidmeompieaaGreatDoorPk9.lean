/-
  Texts that a law leans on, one behind the other; no statement is proved here.
-/
import Derived.Test.YtndnidmeompieaaGreatDoorPk8
import Derived.Test.YtndnidmeompieaaGreatDoorPk0
import Derived.Deep.RegionLaw
import Derived.Deep.RegionWith
import Derived.Test.YtndnidmeompieaaGreatDoorPk2
/-
  l2say of the specification: lists and maps, all; ValText.
-/
namespace Go.Proofs.YtndnidmeompieaaGreatDoor
open Go.RowKit
set_option linter.unusedVariables false
set_option linter.unusedSimpArgs false

/-- The contract of l2say at depth d. -/
def SayAt (d : Nat) : Prop := ∀ (N : Nat) (c : Value × Value × Value × Value × Value) (v : Vl d) (deep : Nat) (w : World), VSeg (fun b => b < N) w d c v → N ≤ w.heap.size → goodB d v deep = true → partsV d v ≤ 40 →
  Calls Tryz.prog 17 #[.agg #[c.1, c.2.1, c.2.2.1, c.2.2.2.1, c.2.2.2.2]] w (SayEnd (sayV d v) w)

theorem below_next {w wx : World} {o : Obj} (h : Below (w.heap.size + 1) (w.alloc o) wx) : Below w.heap.size w wx := by
  have h1 : Below (w.alloc o).heap.size (w.alloc o) wx := by simp only [World.size_alloc]; exact h
  exact Below.on ((Below.refl _ _).alloc (Nat.le_refl _) o) h1

theorem below_on1 {w w1 w2 : World} {o : Obj} (h : Below (w.heap.size + 1) (w.alloc o) w1) (k : Below w1.heap.size w1 w2) : Below (w.heap.size + 1) (w.alloc o) w2 := h.trans (k.mono (by have := h.size; simp at this; omega))

theorem kidS_first {α : Type} (f : α → List Int) (m : Bool) (K : List (List Int)) (L : List α) : kidS f m K L 0 = [] := rfl

set_option maxHeartbeats 3000000 in
set_option maxRecDepth 100000 in
theorem l2say_list (d : Nat) (ih : SayAt d) (N : Nat) (vn : Int) (vK : List (List Int)) (vL : List (Vl d)) (a2 : Option Addr) (l2 p2 : Nat) (a3 : Option Addr) (p3 : Nat) (a4 : Option Addr) (p4 : Nat) (deep : Nat) (w : World) (hN : N ≤ w.heap.size)
    (hl : LSeg (fun b => b < N) w d (.slice a4 vL.length p4) vL) (hk : KSeg (fun b => b < N) w (.slice a3 vK.length p3) vK) (hkl : True) (hkt : True) (hg : ∀ j (h : j < vL.length), goodB d vL[j] deep = true) (hp : 1 + pre (partsV d) vL vL.length ≤ 40) (hn : vL.length ≤ 40) :
    Calls Tryz.prog 17 #[.agg #[.int .i64 4, .int .i64 vn, .slice a2 l2 p2, .slice a3 vK.length p3, .slice a4 vL.length p4]] w (SayEnd (91 :: (kidS (sayV d) false vK vL vL.length ++ [93])) w) := by
  have HL := hide' hl
  have HK := hide' hk
  have HI := hide' ih
  have HG := hide' hg
  have HKL := hide' hkl
  have HKT := hide' hkt
  have HPk : Hid (∀ k (h : k < vL.length), partsV d vL[k] ≤ 40) := fun k h => by
    have h3 := pre_succ (partsV d) vL k h
    have h4 := pre_le (partsV d) vL (k + 1)
    have h5 := pre_all (partsV d) vL
    omega
  have HKn : Hid (∀ k, k ≤ vL.length → (kidS (sayV d) false vK vL k).length ≤ 2400) := fun k h => by
    have h1 := kidS_len (sayV d) (partsV d) false vK vL (fun h => by simp at h) (fun j h => sayV_len d vL[j] deep (hg j h)) k h
    have h4 := pre_le (partsV d) vL k
    have h5 := pre_all (partsV d) vL
    omega
  have HStp : Hid (∀ k (h : k < vL.length), kidS (sayV d) false vK vL (k + 1) = kidS (sayV d) false vK vL k ++ (aheadS false vK k ++ sayV d vL[k])) := fun k h => kidS_succ _ _ _ _ k h
  have HLen : Hid (∀ k (h : k < vL.length), (sayV d vL[k]).length ≤ 2400) := fun k h => by
    have h1 := sayV_len d vL[k] deep (hg k h)
    have h2 := HPk.out k h
    omega
  have HZ : Hid (kidS (sayV d) false vK vL 0 = []) := rfl
  generalize hkid : kidS (sayV d) false vK vL = kid at *
  obtain ⟨ob, HOb⟩ : ∃ ob, Hid (ob = Obj.cells #[.int .i64 4, .int .i64 vn, .slice a2 l2 p2, .slice a3 vK.length p3, .slice a4 vL.length p4] 41) := ⟨_, rfl⟩
  have hB0 : Hid (Bts ((w.alloc ob).alloc (.cells #[.int .u8 91] 5)) (w.heap.size + 1) (.slice (some ⟨w.heap.size + 1, 0, none⟩) 1 1) [91]) := by
    have h := bts_one (w.alloc ob) 91 (by unfold Byt; omega)
    simp only [World.size_alloc] at h
    exact h
  have hb0 : Hid (Below (w.heap.size + 1) (w.alloc ob) ((w.alloc ob).alloc (.cells #[.int .u8 91] 5))) := (Below.refl _ _).alloc (by simp) _
  have HBox : Hid (∀ wx, Below (w.heap.size + 1) (w.alloc ob) wx → wx.cell? ⟨w.heap.size, 0, none⟩ = some (.int .i64 4) ∧ wx.cell? ⟨w.heap.size, 1, none⟩ = some (.int .i64 vn) ∧ wx.cell? ⟨w.heap.size, 2, none⟩ = some (.slice a2 l2 p2) ∧ wx.cell? ⟨w.heap.size, 3, none⟩ = some (.slice a3 vK.length p3) ∧ wx.cell? ⟨w.heap.size, 4, none⟩ = some (.slice a4 vL.length p4)) := fun wx hb => by
    have h1 : Below (w.alloc ob).heap.size (w.alloc ob) wx := by simp only [World.size_alloc]; exact hb
    have h2 := box_row h1
    rw [HOb.out] at h2
    obtain ⟨y0, y1, y2, y3, y4, _⟩ := row5 h2
    exact ⟨y0, y1, y2, y3, y4⟩
  clear hl hk hg ih hkid hp hkl hkt
  rw [HOb.out] at hB0 hb0
  have HB0 := hB0
  have Hb0 := hb0
  clear hB0 hb0
  go_enter Tryz.func17, Tryz.ntmps17
  go_wp2
  go_loopw [5, 6] (fun y i wr => ∃ k : Nat, k ≤ vL.length ∧ i = .int .i64 k ∧ Hid (Bts wr (w.heap.size + 1) y (91 :: kid k)) ∧ Hid (Below (w.heap.size + 1) (w.alloc ob) wr)) (fun _ i _ => vL.length - (intOf i).toNat)
  case atStart => exact ⟨0, Nat.zero_le _, rfl, by rw [HZ.out]; exact HB0, by rw [HOb.out]; exact Hb0⟩
  case round =>
    obtain ⟨k, hk, rfl, hB, hbel⟩ := hrel
    obtain ⟨ya, yc, rfl, _, _, _, _, kk⟩ := hB.out.shape
    obtain ⟨y0, y1, y2, y3, y4⟩ := HBox.out wr hbel.out
    have B := below_next hbel.out
    have hz := hbel.out.size
    simp only [World.size_alloc] at hz
    have hkn := HKn.out k hk
    have HOwn := hide' hB.out.own
    obtain ⟨zs, hzs⟩ : ∃ zs, zs = 91 :: kid k := ⟨_, rfl⟩
    have hzl : zs.length ≤ 2401 := by rw [hzs]; simp; omega
    by_cases hlt : k < vL.length
    · have hlt' : (k : Int) < (vL.length : Int) := by omega
      obtain ⟨b, off, c, rfl, h5', hv⟩ := HL.out.at B hN hlt
      obtain ⟨c0, c1', c2, c3, c4⟩ := c
      have HFive : Hid (∀ wx, Below (w.heap.size + 1) (w.alloc ob) wx → wx.cell? ⟨b, off + k * 5, none⟩ = some c0 ∧ wx.cell? ⟨b, off + k * 5 + 1, none⟩ = some c1' ∧ wx.cell? ⟨b, off + k * 5 + 2, none⟩ = some c2 ∧ wx.cell? ⟨b, off + k * 5 + 3, none⟩ = some c3 ∧ wx.cell? ⟨b, off + k * 5 + 4, none⟩ = some c4) := fun wx hb => five_same HL.out (below_next hb) B hN hlt h5'
      obtain ⟨q0, q1, q2, q3, q4⟩ := h5'
      simp only at q0 q1 q2 q3 q4
      have hst := HStp.out k hlt
      have hkl8 := HLen.out k hlt
      have HC : Hid (∀ wx, Below (w.heap.size + 1) (w.alloc ob) wx → Calls Tryz.prog 17 #[.agg #[c0, c1', c2, c3, c4]] wx (SayEnd (sayV d vL[k]) wx)) := fun wx hb => HI.out N (c0, c1', c2, c3, c4) vL[k] deep wx (hv wx (below_next hb)) (by have := (below_next hb).size; omega) (HG.out k hlt) (HPk.out k hlt)
      generalize sayV d vL[k] = ks at *
      rw [← hzs] at hB HOwn
      have hzl2 : zs.length = (91 :: kid k).length := by rw [hzs]
      rw [← hzl2]
      by_cases hk0 : k = 0
      · have HSt : 91 :: kid (k + 1) = zs ++ ks := by rw [hst, hzs]; simp [aheadS, hk0]
        have hk0' : ¬ (0 : Int) < (k : Int) := by omega
        replace HSt := hide' HSt
        clear hst hzs hzl2 hv hk0 
        go_wp2_with fail
        refine (HC.out wr (hbel.out)).mono ?_
        rintro e w8 ⟨a8, c8, rfl, hs8, k8, _, b8⟩
        have hb8 : Hid (Below (w.heap.size + 1) (w.alloc ob) w8) := below_on1 (hbel.out) b8
        have hv8 := hide' ((hB.out).grow b8)
        have hz8 : w.heap.size + 1 ≤ w8.heap.size := by have := hb8.out.size; simpa using this
        clear b8 HC
        go_wp2_with (at_builtin; refine wpList_append_seg rfl (.tmp 62) (.tmp 68) (by rfl) (w.heap.size + 1) (.slice ya zs.length yc) (zs) ks (by rfl) hv8.out a8 ks.length c8 rfl (by rfl) hs8 k8 (by (try simp); omega) (by omega) ?_; intro v9 w9 hv9 hg9; have hb9 := hide' (hb8.out.grown hg9 hz8 (HOwn.out)); replace hv9 := hide' hv9; clear hg9)
        go_roundw
        case rel => exact ⟨k + 1, by omega, by go_num, by rw [HSt.out]; exact hv9, hb9⟩
        case measure => simp [intOf]; omega
      · have HSt : 91 :: kid (k + 1) = (zs ++ [44, 32]) ++ ks := by rw [hst, hzs]; simp [aheadS, hk0]
        have hk0' : (0 : Int) < (k : Int) := by omega
        replace HSt := hide' HSt
        clear hst hzs hzl2 hv hk0 
        go_wp2_with (first | (at_builtin; refine wpList_append_text rfl (.tmp 49) (.const (.string { data := #[44, 32] })) 9 (by rfl) Tryz.underlying9 (w.heap.size + 1) (.slice ya zs.length yc) (zs) [44, 32] (by rfl) (hB.out) _ (by rfl) (by simp [Byt]) (by rfl) (by (try simp); omega) (by omega) ?_; intro v1 w1 hv1 hg1; have hb1 := hide' ((hbel.out).grown hg1 (by have := (hbel.out).size; simp at this; omega) (HOwn.out)); have hz1 : w.heap.size + 1 ≤ w1.heap.size := (by have := hb1.out.size; simpa using this); obtain ⟨p10, p11, p12, p13, p14⟩ := HBox.out w1 hb1.out; obtain ⟨r10, r11, r12, r13, r14⟩ := HFive.out w1 hb1.out; have HOwn1 := hide' hv1.own; replace hv1 := hide' hv1; clear hg1))
        refine (HC.out w1 (hb1.out)).mono ?_
        rintro e w8 ⟨a8, c8, rfl, hs8, k8, _, b8⟩
        have hb8 : Hid (Below (w.heap.size + 1) (w.alloc ob) w8) := below_on1 (hb1.out) b8
        have hv8 := hide' ((hv1.out).grow b8)
        have hz8 : w.heap.size + 1 ≤ w8.heap.size := by have := hb8.out.size; simpa using this
        clear b8 HC
        go_wp2_with (at_builtin; refine wpList_append_seg rfl (.tmp 62) (.tmp 68) (by rfl) (w.heap.size + 1) v1 (zs ++ [44, 32]) ks (by rfl) hv8.out a8 ks.length c8 rfl (by rfl) hs8 k8 (by (try simp); omega) (by omega) ?_; intro v9 w9 hv9 hg9; have hb9 := hide' (hb8.out.grown hg9 hz8 (HOwn1.out)); replace hv9 := hide' hv9; clear hg9)
        go_roundw
        case rel => exact ⟨k + 1, by omega, by go_num, by rw [HSt.out]; exact hv9, hb9⟩
        case measure => simp [intOf]; omega
    · have hkn' : k = vL.length := by omega
      have hlt' : ¬ (k : Int) < (vL.length : Int) := by omega
      have HF : Hid (91 :: (kid vL.length ++ [93]) = zs ++ [93]) := by show _ = _; rw [hzs, hkn']; simp
      rw [← hzs] at hB HOwn
      have hzl2 : zs.length = (91 :: kid k).length := by rw [hzs]
      rw [← hzl2]
      have hS1 := seg_one wr 93 (by unfold Byt; omega)
      have hA2 := hB.out.alloc (.cells #[.int .u8 93] 5)
      have hbA : Hid (∀ o : Obj, Below (w.heap.size + 1) (w.alloc ob) (wr.alloc o)) := fun o => hbel.out.alloc hz o
      clear hkn' hzs hzl2
      go_wp2_with (at_builtin; refine wpList_append_seg rfl _ _ (by rfl) (w.heap.size + 1) (.slice ya zs.length yc) zs [93] (by rfl) hA2 _ 1 1 rfl (by rfl) hS1 (by simp) (by (try simp); omega) (by (try simp); omega) ?_; intro v2 w2 hv2 hg2; have hb2 := hide' ((hbA.out _).grown hg2 (by (try simp); omega) HOwn.out); replace hv2 := hide' hv2; clear hg2)
      go_ret
      rw [HF.out]
      exact sayEnd_of (w1 := w.alloc ob) (by simp only [World.size_alloc]; exact hv2.out) (by simp) (below_next hb2.out)
end Go.Proofs.YtndnidmeompieaaGreatDoor
/-
  l2say of the specification: maps.
-/
namespace Go.Proofs.YtndnidmeompieaaGreatDoor
open Go.RowKit
set_option linter.unusedVariables false
set_option linter.unusedSimpArgs false

theorem key_same {N : Nat} {w wr wx : World} {b off n cap : Nat} {K : List (List Int)} {ta : Option Addr} {l tc : Nat} (h : KSeg (fun b => b < N) w (.slice (some ⟨b, off, none⟩) n cap) K) (hx : Below w.heap.size w wx) (hr : Below w.heap.size w wr) (hN : N ≤ w.heap.size) {k : Nat} (hk : k < K.length) (hq : wr.cell? ⟨b, off + k, none⟩ = some (.slice ta l tc)) :
    wx.cell? ⟨b, off + k, none⟩ = some (.slice ta l tc) ∧ Seg wx ta (K.getD k []) := by
  obtain ⟨a', cap', h1, h2, h3, h4, h5'⟩ := h.agree (agree_below (hx.mono hN))
  simp only [Value.slice.injEq] at h1
  obtain ⟨rfl, _, _⟩ := h1
  rcases h5' with h0 | ⟨b', off', e, hR, hc⟩
  · subst h0; simp at hk
  · simp only [Option.some.injEq, Addr.mk.injEq] at e
    obtain ⟨rfl, rfl, _⟩ := e
    have hcc : wx.cell? ⟨b, off + k, none⟩ = wr.cell? ⟨b, off + k, none⟩ := World.cell?_of_block ((hx.block b (by omega)).trans (hr.block b (by omega)).symm)
    obtain ⟨u, hu, a2, c2, rfl, s2, _⟩ := hc k hk
    have he := (hu.symm.trans hcc).trans hq
    simp only [Option.some.injEq, Value.slice.injEq] at he
    obtain ⟨rfl, rfl, rfl⟩ := he
    exact ⟨hu, s2⟩

set_option maxHeartbeats 3000000 in
set_option maxRecDepth 100000 in
theorem l2say_map (d : Nat) (ih : SayAt d) (N : Nat) (vn : Int) (vK : List (List Int)) (vL : List (Vl d)) (a2 : Option Addr) (l2 p2 : Nat) (a3 : Option Addr) (p3 : Nat) (a4 : Option Addr) (p4 : Nat) (deep : Nat) (w : World) (hN : N ≤ w.heap.size)
    (hl : LSeg (fun b => b < N) w d (.slice a4 vL.length p4) vL) (hk : KSeg (fun b => b < N) w (.slice a3 vK.length p3) vK) (hkl : vK.length = vL.length) (hkt : ∀ j, j < vK.length → (vK.getD j []).length ≤ 8) (hg : ∀ j (h : j < vL.length), goodB d vL[j] deep = true) (hp : 1 + pre (partsV d) vL vL.length ≤ 40) (hn : vL.length ≤ 40) :
    Calls Tryz.prog 17 #[.agg #[.int .i64 5, .int .i64 vn, .slice a2 l2 p2, .slice a3 vK.length p3, .slice a4 vL.length p4]] w (SayEnd (123 :: (kidS (sayV d) true vK vL vL.length ++ [125])) w) := by
  have HL := hide' hl
  have HK := hide' hk
  have HI := hide' ih
  have HG := hide' hg
  have HKL := hide' hkl
  have HKT := hide' hkt
  have HPk : Hid (∀ k (h : k < vL.length), partsV d vL[k] ≤ 40) := fun k h => by
    have h3 := pre_succ (partsV d) vL k h
    have h4 := pre_le (partsV d) vL (k + 1)
    have h5 := pre_all (partsV d) vL
    omega
  have HKn : Hid (∀ k, k ≤ vL.length → (kidS (sayV d) true vK vL k).length ≤ 2400) := fun k h => by
    have h1 := kidS_len (sayV d) (partsV d) true vK vL (fun _ j hj => hkt j (by omega)) (fun j h => sayV_len d vL[j] deep (hg j h)) k h
    have h4 := pre_le (partsV d) vL k
    have h5 := pre_all (partsV d) vL
    omega
  have HStp : Hid (∀ k (h : k < vL.length), kidS (sayV d) true vK vL (k + 1) = kidS (sayV d) true vK vL k ++ (aheadS true vK k ++ sayV d vL[k])) := fun k h => kidS_succ _ _ _ _ k h
  have HLen : Hid (∀ k (h : k < vL.length), (sayV d vL[k]).length ≤ 2400) := fun k h => by
    have h1 := sayV_len d vL[k] deep (hg k h)
    have h2 := HPk.out k h
    omega
  have HZ : Hid (kidS (sayV d) true vK vL 0 = []) := rfl
  generalize hkid : kidS (sayV d) true vK vL = kid at *
  obtain ⟨ob, HOb⟩ : ∃ ob, Hid (ob = Obj.cells #[.int .i64 5, .int .i64 vn, .slice a2 l2 p2, .slice a3 vK.length p3, .slice a4 vL.length p4] 41) := ⟨_, rfl⟩
  have hB0 : Hid (Bts ((w.alloc ob).alloc (.cells #[.int .u8 123] 5)) (w.heap.size + 1) (.slice (some ⟨w.heap.size + 1, 0, none⟩) 1 1) [123]) := by
    have h := bts_one (w.alloc ob) 123 (by unfold Byt; omega)
    simp only [World.size_alloc] at h
    exact h
  have hb0 : Hid (Below (w.heap.size + 1) (w.alloc ob) ((w.alloc ob).alloc (.cells #[.int .u8 123] 5))) := (Below.refl _ _).alloc (by simp) _
  have HBox : Hid (∀ wx, Below (w.heap.size + 1) (w.alloc ob) wx → wx.cell? ⟨w.heap.size, 0, none⟩ = some (.int .i64 5) ∧ wx.cell? ⟨w.heap.size, 1, none⟩ = some (.int .i64 vn) ∧ wx.cell? ⟨w.heap.size, 2, none⟩ = some (.slice a2 l2 p2) ∧ wx.cell? ⟨w.heap.size, 3, none⟩ = some (.slice a3 vK.length p3) ∧ wx.cell? ⟨w.heap.size, 4, none⟩ = some (.slice a4 vL.length p4)) := fun wx hb => by
    have h1 : Below (w.alloc ob).heap.size (w.alloc ob) wx := by simp only [World.size_alloc]; exact hb
    have h2 := box_row h1
    rw [HOb.out] at h2
    obtain ⟨y0, y1, y2, y3, y4, _⟩ := row5 h2
    exact ⟨y0, y1, y2, y3, y4⟩
  clear hl hk hg ih hkid hp hkl hkt
  rw [HOb.out] at hB0 hb0
  have HB0 := hB0
  have Hb0 := hb0
  clear hB0 hb0
  go_enter Tryz.func17, Tryz.ntmps17
  go_wp2
  go_loopw [5, 6] (fun y i wr => ∃ k : Nat, k ≤ vL.length ∧ i = .int .i64 k ∧ Hid (Bts wr (w.heap.size + 1) y (123 :: kid k)) ∧ Hid (Below (w.heap.size + 1) (w.alloc ob) wr)) (fun _ i _ => vL.length - (intOf i).toNat)
  case atStart => exact ⟨0, Nat.zero_le _, rfl, by rw [HZ.out]; exact HB0, by rw [HOb.out]; exact Hb0⟩
  case round =>
    obtain ⟨k, hk, rfl, hB, hbel⟩ := hrel
    obtain ⟨ya, yc, rfl, _, _, _, _, kk⟩ := hB.out.shape
    obtain ⟨y0, y1, y2, y3, y4⟩ := HBox.out wr hbel.out
    have B := below_next hbel.out
    have hz := hbel.out.size
    simp only [World.size_alloc] at hz
    have hkn := HKn.out k hk
    have HOwn := hide' hB.out.own
    obtain ⟨zs, hzs⟩ : ∃ zs, zs = 123 :: kid k := ⟨_, rfl⟩
    have hzl : zs.length ≤ 2401 := by rw [hzs]; simp; omega
    by_cases hlt : k < vL.length
    · have hlt' : (k : Int) < (vL.length : Int) := by omega
      obtain ⟨b, off, c, rfl, h5', hv⟩ := HL.out.at B hN hlt
      obtain ⟨c0, c1', c2, c3, c4⟩ := c
      have HFive : Hid (∀ wx, Below (w.heap.size + 1) (w.alloc ob) wx → wx.cell? ⟨b, off + k * 5, none⟩ = some c0 ∧ wx.cell? ⟨b, off + k * 5 + 1, none⟩ = some c1' ∧ wx.cell? ⟨b, off + k * 5 + 2, none⟩ = some c2 ∧ wx.cell? ⟨b, off + k * 5 + 3, none⟩ = some c3 ∧ wx.cell? ⟨b, off + k * 5 + 4, none⟩ = some c4) := fun wx hb => five_same HL.out (below_next hb) B hN hlt h5'
      obtain ⟨q0, q1, q2, q3, q4⟩ := h5'
      simp only at q0 q1 q2 q3 q4
      have hst := HStp.out k hlt
      have hkl8 := HLen.out k hlt
      have HC : Hid (∀ wx, Below (w.heap.size + 1) (w.alloc ob) wx → Calls Tryz.prog 17 #[.agg #[c0, c1', c2, c3, c4]] wx (SayEnd (sayV d vL[k]) wx)) := fun wx hb => HI.out N (c0, c1', c2, c3, c4) vL[k] deep wx (hv wx (below_next hb)) (by have := (below_next hb).size; omega) (HG.out k hlt) (HPk.out k hlt)
      have hlt3 : k < vK.length := by rw [HKL.out]; exact hlt
      have hlt3' : (k : Int) < (vK.length : Int) := by omega
      obtain ⟨bk, okk, rfl, hkc0⟩ := (HK.out.agree (agree_below (B.mono hN))).at hlt3
      obtain ⟨ta, tc, qk, _, _⟩ := hkc0 k hlt3
      have ktc : ta = none → tc = 0 := KSeg.none_at (HK.out.agree (agree_below (B.mono hN))) hlt3 qk
      have hkl9 := HKT.out k hlt3
      have HKey0 : Hid (∀ wx, Below (w.heap.size + 1) (w.alloc ob) wx → wx.cell? ⟨bk, okk + k, none⟩ = some (.slice ta (vK.getD k []).length tc) ∧ Seg wx ta (vK.getD k [])) := fun wx hb => key_same HK.out (below_next hb) B hN hlt3 qk
      obtain ⟨ts, hts⟩ : ∃ ts, ts = vK.getD k [] := ⟨_, rfl⟩
      rw [← hts] at HKey0 hkl9 qk
      have HKey : Hid (∀ wx, Below (w.heap.size + 1) (w.alloc ob) wx → wx.cell? ⟨bk, okk + k, none⟩ = some (.slice ta ts.length tc)) := fun wx hb => (HKey0.out wx hb).1
      have HKs : Hid (∀ wx, Below (w.heap.size + 1) (w.alloc ob) wx → Seg wx ta ts) := fun wx hb => (HKey0.out wx hb).2
      clear hkc0
      generalize sayV d vL[k] = ks at *
      rw [← hzs] at hB HOwn
      have hzl2 : zs.length = (123 :: kid k).length := by rw [hzs]
      rw [← hzl2]
      by_cases hk0 : k = 0
      · have HSt : 123 :: kid (k + 1) = ((zs ++ ts) ++ [32, 61, 32]) ++ ks := by rw [hst, hzs]; simp [aheadS, hk0, hts]
        have hk0' : ¬ (0 : Int) < (k : Int) := by omega
        replace HSt := hide' HSt
        clear hst hzs hzl2 hv hk0 hts
        go_wp2_with (first | (at_builtin; refine wpList_append_seg rfl (.tmp 54) (.tmp 59) (by rfl) (w.heap.size + 1) (.slice ya zs.length yc) (zs) ts (by rfl) (hB.out) ta ts.length tc rfl (by rfl) (HKs.out _ (hbel.out)) ktc (by (try simp); omega) (by omega) ?_; intro v1 w1 hv1 hg1; have hb1 := hide' ((hbel.out).grown hg1 (by have := (hbel.out).size; simp at this; omega) (HOwn.out)); have hz1 : w.heap.size + 1 ≤ w1.heap.size := (by have := hb1.out.size; simpa using this); obtain ⟨p10, p11, p12, p13, p14⟩ := HBox.out w1 hb1.out; obtain ⟨r10, r11, r12, r13, r14⟩ := HFive.out w1 hb1.out; have HOwn1 := hide' hv1.own; have hkc1 := HKey.out w1 hb1.out; replace hv1 := hide' hv1; clear hg1) | (at_builtin; refine wpList_append_text rfl (.tmp 60) (.const (.string { data := #[32, 61, 32] })) 9 (by rfl) Tryz.underlying9 (w.heap.size + 1) v1 (zs ++ ts) [32, 61, 32] (by rfl) (hv1.out) _ (by rfl) (by simp [Byt]) (by rfl) (by (try simp); omega) (by omega) ?_; intro v2 w2 hv2 hg2; have hb2 := hide' ((hb1.out).grown hg2 (by have := (hb1.out).size; simp at this; omega) (HOwn1.out)); have hz2 : w.heap.size + 1 ≤ w2.heap.size := (by have := hb2.out.size; simpa using this); obtain ⟨p20, p21, p22, p23, p24⟩ := HBox.out w2 hb2.out; obtain ⟨r20, r21, r22, r23, r24⟩ := HFive.out w2 hb2.out; have HOwn2 := hide' hv2.own; have hkc2 := HKey.out w2 hb2.out; replace hv2 := hide' hv2; clear hg2))
        refine (HC.out w2 (hb2.out)).mono ?_
        rintro e w8 ⟨a8, c8, rfl, hs8, k8, _, b8⟩
        have hb8 : Hid (Below (w.heap.size + 1) (w.alloc ob) w8) := below_on1 (hb2.out) b8
        have hv8 := hide' ((hv2.out).grow b8)
        have hz8 : w.heap.size + 1 ≤ w8.heap.size := by have := hb8.out.size; simpa using this
        clear b8 HC
        go_wp2_with (at_builtin; refine wpList_append_seg rfl (.tmp 62) (.tmp 68) (by rfl) (w.heap.size + 1) v2 ((zs ++ ts) ++ [32, 61, 32]) ks (by rfl) hv8.out a8 ks.length c8 rfl (by rfl) hs8 k8 (by (try simp); omega) (by omega) ?_; intro v9 w9 hv9 hg9; have hb9 := hide' (hb8.out.grown hg9 hz8 (HOwn2.out)); replace hv9 := hide' hv9; clear hg9)
        go_roundw
        case rel => exact ⟨k + 1, by omega, by go_num, by rw [HSt.out]; exact hv9, hb9⟩
        case measure => simp [intOf]; omega
      · have HSt : 123 :: kid (k + 1) = (((zs ++ [44, 32]) ++ ts) ++ [32, 61, 32]) ++ ks := by rw [hst, hzs]; simp [aheadS, hk0, hts]
        have hk0' : (0 : Int) < (k : Int) := by omega
        replace HSt := hide' HSt
        clear hst hzs hzl2 hv hk0 hts
        go_wp2_with (first | (at_builtin; refine wpList_append_text rfl (.tmp 49) (.const (.string { data := #[44, 32] })) 9 (by rfl) Tryz.underlying9 (w.heap.size + 1) (.slice ya zs.length yc) (zs) [44, 32] (by rfl) (hB.out) _ (by rfl) (by simp [Byt]) (by rfl) (by (try simp); omega) (by omega) ?_; intro v1 w1 hv1 hg1; have hb1 := hide' ((hbel.out).grown hg1 (by have := (hbel.out).size; simp at this; omega) (HOwn.out)); have hz1 : w.heap.size + 1 ≤ w1.heap.size := (by have := hb1.out.size; simpa using this); obtain ⟨p10, p11, p12, p13, p14⟩ := HBox.out w1 hb1.out; obtain ⟨r10, r11, r12, r13, r14⟩ := HFive.out w1 hb1.out; have HOwn1 := hide' hv1.own; have hkc1 := HKey.out w1 hb1.out; replace hv1 := hide' hv1; clear hg1) | (at_builtin; refine wpList_append_seg rfl (.tmp 54) (.tmp 59) (by rfl) (w.heap.size + 1) v1 (zs ++ [44, 32]) ts (by rfl) (hv1.out) ta ts.length tc rfl (by rfl) (HKs.out _ (hb1.out)) ktc (by (try simp); omega) (by omega) ?_; intro v2 w2 hv2 hg2; have hb2 := hide' ((hb1.out).grown hg2 (by have := (hb1.out).size; simp at this; omega) (HOwn1.out)); have hz2 : w.heap.size + 1 ≤ w2.heap.size := (by have := hb2.out.size; simpa using this); obtain ⟨p20, p21, p22, p23, p24⟩ := HBox.out w2 hb2.out; obtain ⟨r20, r21, r22, r23, r24⟩ := HFive.out w2 hb2.out; have HOwn2 := hide' hv2.own; have hkc2 := HKey.out w2 hb2.out; replace hv2 := hide' hv2; clear hg2) | (at_builtin; refine wpList_append_text rfl (.tmp 60) (.const (.string { data := #[32, 61, 32] })) 9 (by rfl) Tryz.underlying9 (w.heap.size + 1) v2 ((zs ++ [44, 32]) ++ ts) [32, 61, 32] (by rfl) (hv2.out) _ (by rfl) (by simp [Byt]) (by rfl) (by (try simp); omega) (by omega) ?_; intro v3 w3 hv3 hg3; have hb3 := hide' ((hb2.out).grown hg3 (by have := (hb2.out).size; simp at this; omega) (HOwn2.out)); have hz3 : w.heap.size + 1 ≤ w3.heap.size := (by have := hb3.out.size; simpa using this); obtain ⟨p30, p31, p32, p33, p34⟩ := HBox.out w3 hb3.out; obtain ⟨r30, r31, r32, r33, r34⟩ := HFive.out w3 hb3.out; have HOwn3 := hide' hv3.own; have hkc3 := HKey.out w3 hb3.out; replace hv3 := hide' hv3; clear hg3))
        refine (HC.out w3 (hb3.out)).mono ?_
        rintro e w8 ⟨a8, c8, rfl, hs8, k8, _, b8⟩
        have hb8 : Hid (Below (w.heap.size + 1) (w.alloc ob) w8) := below_on1 (hb3.out) b8
        have hv8 := hide' ((hv3.out).grow b8)
        have hz8 : w.heap.size + 1 ≤ w8.heap.size := by have := hb8.out.size; simpa using this
        clear b8 HC
        go_wp2_with (at_builtin; refine wpList_append_seg rfl (.tmp 62) (.tmp 68) (by rfl) (w.heap.size + 1) v3 (((zs ++ [44, 32]) ++ ts) ++ [32, 61, 32]) ks (by rfl) hv8.out a8 ks.length c8 rfl (by rfl) hs8 k8 (by (try simp); omega) (by omega) ?_; intro v9 w9 hv9 hg9; have hb9 := hide' (hb8.out.grown hg9 hz8 (HOwn3.out)); replace hv9 := hide' hv9; clear hg9)
        go_roundw
        case rel => exact ⟨k + 1, by omega, by go_num, by rw [HSt.out]; exact hv9, hb9⟩
        case measure => simp [intOf]; omega
    · have hkn' : k = vL.length := by omega
      have hlt' : ¬ (k : Int) < (vL.length : Int) := by omega
      have HF : Hid (123 :: (kid vL.length ++ [125]) = zs ++ [125]) := by show _ = _; rw [hzs, hkn']; simp
      rw [← hzs] at hB HOwn
      have hzl2 : zs.length = (123 :: kid k).length := by rw [hzs]
      rw [← hzl2]
      have hS1 := seg_one wr 125 (by unfold Byt; omega)
      have hA2 := hB.out.alloc (.cells #[.int .u8 125] 5)
      have hbA : Hid (∀ o : Obj, Below (w.heap.size + 1) (w.alloc ob) (wr.alloc o)) := fun o => hbel.out.alloc hz o
      clear hkn' hzs hzl2
      go_wp2_with (at_builtin; refine wpList_append_seg rfl _ _ (by rfl) (w.heap.size + 1) (.slice ya zs.length yc) zs [125] (by rfl) hA2 _ 1 1 rfl (by rfl) hS1 (by simp) (by (try simp); omega) (by (try simp); omega) ?_; intro v2 w2 hv2 hg2; have hb2 := hide' ((hbA.out _).grown hg2 (by (try simp); omega) HOwn.out); replace hv2 := hide' hv2; clear hg2)
      go_ret
      rw [HF.out]
      exact sayEnd_of (w1 := w.alloc ob) (by simp only [World.size_alloc]; exact hv2.out) (by simp) (below_next hb2.out)
end Go.Proofs.YtndnidmeompieaaGreatDoor
/-
  l2say of whatever value; ValText of the specification.
-/
namespace Go.Proofs.YtndnidmeompieaaGreatDoor
open Go.RowKit
set_option linter.unusedVariables false
set_option linter.unusedSimpArgs false

theorem shape_says {vk vn : Int} {vs : List Int} {vK : List (List Int)} {n : Nat} (h : shapeB vk vn vs vK n = true) :
    vs.length ≤ 20 ∧ (vk = 0 ∨ vk = 6 ∨ (vk = 1 ∧ (vn = 0 ∨ vn = 1)) ∨ (vk = 2 ∧ -1000000000000 ≤ vn ∧ vn ≤ 1000000000000) ∨ vk = 3 ∨ (vk = 4 ∧ vK.length = 0) ∨ (vk = 5 ∧ vK.length = n ∧ ascB vK = true)) := by
  unfold shapeB bareB intB at h
  simp only [Bool.and_eq_true, Bool.or_eq_true, decide_eq_true_eq] at h
  obtain ⟨⟨⟨⟨h1, h2⟩, h3⟩, h4⟩, h5⟩ := h
  have htx : textB vs = true → vs.length ≤ 20 := fun ht => by
    unfold textB at ht
    simp only [Bool.and_eq_true, decide_eq_true_eq] at ht
    exact ht.1
  rcases h5 with (((((h5 | h5) | h5) | h5) | h5) | h5) | h5
  · exact ⟨by omega, .inl h5⟩
  · exact ⟨by omega, .inr (.inl h5)⟩
  · exact ⟨by omega, .inr (.inr (.inl h5))⟩
  · exact ⟨by omega, .inr (.inr (.inr (.inl ⟨h5.1, h5.2.1, h5.2.2⟩)))⟩
  · exact ⟨htx h5.2, .inr (.inr (.inr (.inr (.inl h5.1))))⟩
  · exact ⟨by omega, .inr (.inr (.inr (.inr (.inr (.inl ⟨h5, by omega⟩)))))⟩
  · exact ⟨by omega, .inr (.inr (.inr (.inr (.inr (.inr ⟨h5.1, h5.2.1, h5.2.2⟩)))))⟩

theorem kids_less {d : Nat} (vL : List (Vl d)) : ∀ k, k ≤ vL.length → k ≤ pre (partsV d) vL k := by
  intro k
  induction k with
  | zero => intro _; exact Nat.zero_le _
  | succ k ih =>
    intro hk
    have h1 := pre_succ (partsV d) vL k (by omega)
    have h2 := ih (by omega)
    have h3 : 1 ≤ partsV d vL[k] := by
      cases d with
      | zero => exact (vL[k]).elim
      | succ d => exact parts_pos d _
    omega

theorem l2say_succ (d : Nat) (ih : SayAt d) : SayAt (d + 1) := by
  intro N c v deep w hv hN hg hlen
  obtain ⟨c0, c1, c2, c3, c4⟩ := c
  obtain ⟨vk, vn, vs, vK, vL⟩ := v
  obtain ⟨_, hsh, hkids⟩ := (good_succ _ _ _ _ _ _ _).1 hg
  obtain ⟨hvs, hk⟩ := shape_says hsh
  obtain ⟨e0, e1, ht, hK, hl⟩ := (VSeg_succ _ _ _ _ _).1 hv
  simp only at e0 e1 ht hK hl
  subst e0
  subst e1
  rw [parts_succ] at hlen
  have hfew := kids_less vL vL.length (Nat.le_refl _)
  have hl' := hl
  have hK' := hK
  obtain ⟨a2, p2, rfl, s2, l2, m2, k2, r2⟩ := ht
  obtain ⟨a3, p3, rfl, _⟩ := hK
  obtain ⟨a4, p4, rfl, _⟩ := hl
  rcases hk with rfl | rfl | ⟨rfl, rfl | rfl⟩ | ⟨rfl, hlo, hhi⟩ | rfl | ⟨rfl, h0⟩ | ⟨rfl, h1, h2⟩
  · rw [sayV_null]; exact l2say_null vn vs a2 p2 a3 _ p3 a4 _ p4 w
  · rw [sayV_unknown]; exact l2say_unknown vn vs a2 p2 a3 _ p3 a4 _ p4 w
  · rw [sayV_bool]; exact l2say_false 0 vs a2 p2 a3 _ p3 a4 _ p4 w
  · rw [sayV_bool]; exact l2say_true 1 vs a2 p2 a3 _ p3 a4 _ p4 w
  · rw [sayV_int]; exact l2say_int vn vs a2 p2 a3 _ p3 a4 _ p4 w hlo hhi
  · rw [sayV_text]; exact l2say_text vn vs a2 p2 a3 _ p3 a4 _ p4 w s2 (by omega)
  · rw [sayV_list]; exact l2say_list d ih N vn vK vL a2 _ p2 a3 p3 a4 p4 (deep + 1) w hN hl' hK' trivial trivial hkids hlen (by omega)
  · rw [sayV_map]; exact l2say_map d ih N vn vK vL a2 _ p2 a3 p3 a4 p4 (deep + 1) w hN hl' hK' h1 (fun j hj => asc_few h2 j hj) hkids hlen (by omega)

theorem l2say_any (d : Nat) : SayAt d := by
  induction d with
  | zero => intro N c v deep w hv; exact hv.elim
  | succ d ih => exact l2say_succ d ih

theorem ok_says {d : Nat} {v : Vl d} (h : okB d v = true) : goodB d v 1 = true ∧ partsV d v ≤ 40 := by
  unfold okB at h
  simp only [Bool.and_eq_true, decide_eq_true_eq] at h
  exact h

end Go.Proofs.YtndnidmeompieaaGreatDoor
/-
  Blocks that hold no bytes stay where bytes are appended.
-/
namespace Go.Proofs.YtndnidmeompieaaGreatDoor
open Go.RowKit
set_option linter.unusedVariables false
set_option linter.unusedSimpArgs false

/-- All blocks that hold no bytes stay as they are. -/
def Kept (w w' : World) : Prop := ∀ (g : Nat) (cs : Array Value) (T : TypeId) (fr : Nat × Nat), w.heap[g]? = some (.cells cs T fr) → T ≠ 5 → w'.heap[g]? = some (.cells cs T fr)
theorem Kept.refl (w : World) : Kept w w := fun _ _ _ _ h _ => h
theorem Kept.trans {w w1 w2 : World} (h : Kept w w1) (k : Kept w1 w2) : Kept w w2 := fun g cs T fr hh hT => k g cs T fr (h g cs T fr hh hT) hT
theorem kept_below {w w' : World} (h : Below w.heap.size w w') : Kept w w' := fun g cs T fr hh _ => (h.block g (Array.getElem?_eq_some_iff.1 hh).1).trans hh
theorem kept_alloc (w : World) (o : Obj) : Kept w (w.alloc o) := kept_below ((Below.refl _ _).alloc (Nat.le_refl _) o)
theorem bts_box {w : World} {B : Nat} {v : Value} {xs : List Int} {g : Nat} {cs : Array Value} {T : TypeId} {fr : Nat × Nat} (h : Bts w B v xs) (hb : w.heap[g]? = some (.cells cs T fr)) (hT : T ≠ 5) : some g ≠ v.ownBlock := by
  intro e
  rcases h.2.2 with ⟨rfl, _⟩ | ⟨g', cap, cur, rfl, _, hh, _⟩
  · simp [Value.ownBlock] at e
  · simp [Value.ownBlock] at e
    subst e
    rw [hh] at hb
    simp at hb
    exact hT hb.2.1.symm
theorem kept_grown {w w' : World} {B : Nat} {v : Value} {xs : List Int} (h : Bts w B v xs) (hg : w.grownBy w' v.ownBlock) : Kept w w' := fun g cs T fr hh hT => (hg.block g (Array.getElem?_eq_some_iff.1 hh).1 (bts_box h hh hT)).trans hh
theorem kept_app {w0 w w' : World} {o : Obj} {B : Nat} {v : Value} {xs : List Int} (hk : Kept w0 w) (h : Bts (w.alloc o) B v xs) (hg : (w.alloc o).grownBy w' v.ownBlock) : Kept w0 w' := hk.trans ((kept_alloc w o).trans (kept_grown h hg))
theorem kept_app2 {w0 w w' : World} {o o' : Obj} {B : Nat} {v : Value} {xs : List Int} (hk : Kept w0 w) (h : Bts ((w.alloc o).alloc o') B v xs) (hg : ((w.alloc o).alloc o').grownBy w' v.ownBlock) : Kept w0 w' := hk.trans ((kept_alloc w o).trans ((kept_alloc _ o').trans (kept_grown h hg)))
end Go.Proofs.YtndnidmeompieaaGreatDoor
/-
  A slice of one byte that is made as a step of a region that draws its order, and what keeps it.
-/
namespace Go.Proofs.YtndnidmeompieaaGreatDoor
open Go.RowKit
set_option linter.unusedVariables false
set_option linter.unusedSimpArgs false

/-- A block of one byte. -/
def LitB (w : World) (g : Nat) (c : Int) : Prop := w.heap[g]? = some (.cells #[.int .u8 c] 5 (0, 0))

theorem LitB.lt {w : World} {g : Nat} {c : Int} (h : LitB w g c) : g < w.heap.size := (Array.getElem?_eq_some_iff.1 h).1
theorem LitB.kept {w w' : World} {g : Nat} {c : Int} {r : Option Nat} (h : LitB w g c) (hg : w.grownBy w' r) (hr : some g ≠ r) : LitB w' g c := (hg.block g h.lt hr).trans h
theorem LitB.grow {w w' : World} {g : Nat} {c : Int} (h : LitB w g c) (hb : Below w.heap.size w w') : LitB w' g c := (hb.block g h.lt).trans h
theorem LitB.seg {w : World} {g : Nat} {c : Int} (h : LitB w g c) (hc : Byt c) : Seg w (some ⟨g, 0, none⟩) [c] := by
  refine ⟨by simpa using hc, .inr ⟨g, 0, rfl, fun i hi => ?_⟩⟩
  obtain rfl : i = 0 := by simp at hi; omega
  rw [cell_of_row w g _ _ _ _ h]
  rfl

theorem LitB.ne {w : World} {B g : Nat} {c x : Int} {v : Value} {xs : List Int} (h : LitB w g c) (hB : Bts w B v (xs ++ [x])) (hx : x ≠ c) : some g ≠ v.ownBlock := by
  intro e
  have hlen : 0 < (xs ++ [x]).length := by simp
  rcases hB.2.2 with ⟨rfl, h0⟩ | ⟨g', cap, cur, rfl, _, hh, h4, _, h5, h6⟩
  · simp [Value.ownBlock] at e
  · simp [Value.ownBlock] at e
    subst e
    have hc : cur = #[.int .u8 c] := by
      have := h.symm.trans hh
      simp at this
      exact this.symm
    subst hc
    have hl1 : (xs ++ [x]).length = 1 := by
      have h5' : 1 = cap := by simpa using h5
      omega
    have hx0 : xs = [] := by simpa using hl1
    subst hx0
    simp [cellsOf] at h6
    exact hx h6.symm

/-- A new block of one byte, not ahead of lo. -/
def LitA (lo : Nat) (w : World) (g : Nat) (c : Int) : Prop := LitB w g c ∧ lo ≤ g
theorem lit_new {lo q : Nat} {w : World} {c : Int} (hq : w.heap.size = q) (hl : lo ≤ q) : LitA lo (w.alloc (.cells #[.int .u8 c] 5)) q c := by
  subst hq
  exact ⟨(MapKept.heap_alloc w _).1, hl⟩
theorem LitA.alloc {lo g : Nat} {w : World} {c : Int} (h : LitA lo w g c) (o : Obj) : LitA lo (w.alloc o) g c := ⟨h.1.kept (World.grownBy_alloc w o none) (by simp), h.2⟩
theorem LitA.drew {lo g : Nat} {w : World} {c : Int} (h : LitA lo w g c) : LitA lo w.drew g c := h
theorem LitA.seg {lo g : Nat} {w : World} {c : Int} (h : LitA lo w g c) (hc : Byt c) : Seg w (some ⟨g, 0, none⟩) [c] := h.1.seg hc
theorem LitA.kept {lo g : Nat} {w w' : World} {c : Int} {r : Option Nat} (h : LitA lo w g c) (hg : w.grownBy w' r) (hr : some g ≠ r) : LitA lo w' g c := ⟨h.1.kept hg hr, h.2⟩
theorem LitA.old {lo g : Nat} {w w' : World} {c : Int} {v : Value} (h : LitA lo w g c) (hg : w.grownBy w' v.ownBlock) (hr : ∀ k, v.ownBlock = some k → k < lo) : LitA lo w' g c := h.kept hg fun e => by have := hr g e.symm; have := h.2; omega
theorem LitA.grow {lo g : Nat} {w w' : World} {c : Int} (h : LitA lo w g c) (hb : Below w.heap.size w w') : LitA lo w' g c := ⟨h.1.grow hb, h.2⟩
theorem LitA.far {lo g B : Nat} {w w' : World} {c x : Int} {v : Value} {xs : List Int} (h : LitA lo w g c) (hB : Bts w B v (xs ++ [x])) (hx : x ≠ c) (hg : w.grownBy w' v.ownBlock) : LitA lo w' g c := h.kept hg (h.1.ne hB hx)
theorem Bts.young2 {lo : Nat} {w w' : World} {u v : Value} {xs : List Int} (h : Bts w lo u xs) (hg : w.grownBy w' v.ownBlock) (hv : ∀ k, u.ownBlock = some k → v.ownBlock = some k → False) : Bts w' lo u xs := by
  refine h.kept hg ?_
  cases hq : u.ownBlock with
  | none => exact .inl rfl
  | some q => exact .inr fun e => hv q hq e.symm
theorem Bts.young {lo : Nat} {w w' : World} {u v : Value} {xs : List Int} (h : Bts w lo u xs) (hg : w.grownBy w' v.ownBlock) (hv : ∀ k, v.ownBlock = some k → k < lo) : Bts w' lo u xs := by
  refine h.kept hg ?_
  cases hq : u.ownBlock with
  | none => exact .inl rfl
  | some q =>
    refine .inr fun e => ?_
    have h1 := (h.2.lt q hq).1
    have h2 := hv q e.symm
    omega
end Go.Proofs.YtndnidmeompieaaGreatDoor
/-
  'append(own, ys...)' as a step of a region that draws its order.
-/
namespace Go.Proofs.YtndnidmeompieaaGreatDoor
open Go.RowKit
set_option linter.unusedVariables false
set_option linter.unusedSimpArgs false

theorem step_append_seg {ops : Array Oper} {o : Oper} {a : Act} {w : World} {K : Act → World → Prop} {Q : Exit → Act → World → Prop} {E : Prop} (hgd : o.guard = none) (s x : Operand)
    (ho : o.op = .call { callee := .builtin .append, args := #[s, x], argTypes := #[26, 26] })
    (base : Nat) (v : Value) (xs ys : List Int) (hs : a.eval s = v) (hB : Bts w base v xs) (ad : Option Addr) (m c : Nat) (hm : m = ys.length) (hx : a.eval x = .slice ad m c) (hS : Seg w ad ys) (hc : ad = none → c = 0)
    (hlen : xs.length + ys.length ≤ 1099511627776) (hbase : base ≤ w.heap.size)
    (h : ∀ v' w', Bts w' base v' (xs ++ ys) → w.grownBy w' v.ownBlock → K (a.put o.dst v') w') : if Region.wanted o (yielded ops a.tmps) = true then Oper.wp Tryz.prog o a w K Q else E := by
  have hw : Region.wanted o (yielded ops a.tmps) = true := by simp [Region.wanted, hgd]
  rw [if_pos hw]
  obtain ⟨i0, hi, hz0, hz1, hz2⟩ := info_parts info5
  have hbyt : ∀ z ∈ xs ++ ys, Byt z := by
    intro z hz
    rcases List.mem_append.1 hz with h1 | h1
    · exact hB.1 z h1
    · exact hS.1 z h1
  subst hm
  cases ad with
  | none =>
    have hc0 := hc rfl
    have hy : ys = [] := by
      rcases hS.2 with h0 | ⟨b, off, h1, _⟩
      · exact h0
      · simp at h1
    subst hc0
    subst hy
    have hrun := run_append_owned_none (P := Tryz.prog) (w := w) base 26 o.type 5 i0 1 Tryz.underlying26 hi v xs.length (cellsOf xs) hB.2
    unfold Oper.wp
    simp only [List.length_nil] at hx
    simp [execOp, ho, resolve, invoke, builtin, hs, hx, hrun, Result.andThen]
    exact h v w (by simpa using hB) (World.grownBy.refl _ _)
  | some ad =>
    obtain ⟨v', w', hrun, r1, r2, _⟩ := run_append_own (P := Tryz.prog) w base 26 o.type 5 i0 (.int .u8 0) 1 1 Tryz.underlying26 hi hz0 hz1 hz2 rfl (by decide) v xs.length (cellsOf xs) hB.2 ad ys.length c (cellsOf ys) (by simp [cellsOf])
      (by
        intro j u hu
        rcases hS.2 with h0 | ⟨b, off, h1, h2⟩
        · subst h0; simp [cellsOf] at hu
        · simp at h1
          subst h1
          have hj : j < ys.length := by
            have := (List.getElem?_eq_some_iff.1 hu).1
            simpa [cellsOf] using this
          rw [Addr.add_lit, h2 j hj]
          simp [cellsOf, hj] at hu
          simp [hj, hu])
      (by
        intro u hu
        simp only [cellsOf, List.mem_map] at hu
        obtain ⟨q, _, rfl⟩ := hu
        rfl)
      (by unfold maxLen; omega) (by omega) hbase
    unfold Oper.wp
    simp [execOp, ho, resolve, invoke, builtin, hs, hx, hrun, Result.andThen]
    exact h v' w' ⟨hbyt, by rw [cellsOf_append]; simpa using r1⟩ r2

end Go.Proofs.YtndnidmeompieaaGreatDoor
/-
  'append(own, s...)', s a string, as a step of a region that draws its order.
-/
namespace Go.Proofs.YtndnidmeompieaaGreatDoor
open Go.RowKit
set_option linter.unusedVariables false
set_option linter.unusedSimpArgs false

theorem step_append_text {ops : Array Oper} {o : Oper} {a : Act} {w : World} {K : Act → World → Prop} {Q : Exit → Act → World → Prop} {E : Prop} (hgd : o.guard = none) (s x : Operand) (t : TypeId)
    (ho : o.op = .call { callee := .builtin .append, args := #[s, x], argTypes := #[26, t] }) (ht : Tryz.prog.underlying t = some .string)
    (base : Nat) (v : Value) (xs ys : List Int) (hs : a.eval s = v) (hB : Bts w base v xs) (sx : ByteArray) (hsx : sx = strOf ys) (hy : ∀ y ∈ ys, Byt y) (hx : a.eval x = .string sx)
    (hlen : xs.length + ys.length ≤ 1099511627776) (hbase : base ≤ w.heap.size)
    (h : ∀ v' w', Bts w' base v' (xs ++ ys) → w.grownBy w' v.ownBlock → K (a.put o.dst v') w') : if Region.wanted o (yielded ops a.tmps) = true then Oper.wp Tryz.prog o a w K Q else E := by
  have hw : Region.wanted o (yielded ops a.tmps) = true := by simp [Region.wanted, hgd]
  rw [if_pos hw]
  obtain ⟨i0, hi, hz0, hz1, hz2⟩ := info_parts info5
  subst hsx
  have hsz := size_strOf ys
  obtain ⟨v', w', hrun, hown, hg, _⟩ := Lib.run_append_own_string (P := Tryz.prog) w base 26 t o.type 5 i0 Tryz.underlying26 ht hi hz0 hz1 hz2 v xs.length (cellsOf xs) hB.2 (strOf ys) (by unfold maxLen; omega) (by omega) hbase
  unfold Oper.wp
  simp [execOp, ho, resolve, invoke, builtin, hs, hx, hrun, Result.andThen]
  refine h v' w' ⟨?_, ?_⟩ hg
  · intro z hz
    rcases List.mem_append.1 hz with h1 | h1
    · exact hB.1 z h1
    · exact hy z h1
  · rw [strCells_of hy, hsz, ← cellsOf_append] at hown
    rw [List.length_append]
    exact hown
end Go.Proofs.YtndnidmeompieaaGreatDoor
