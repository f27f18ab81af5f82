/-
  Texts that a law leans on, one behind the other; no statement is proved here.
-/
import Derived.Test.YtblnpjcmcjebkaaDoorPk4
import Derived.Test.YtblnpjcmcjebkaaDoorPk5
import Derived.Test.YtblnpjcmcjebkaaDoorPk3
import Derived.Maps.Own
/-
  l2say of the specification: lists and maps, all; ValText.
-/
namespace Go.Proofs.YtblnpjcmcjebkaaDoor
open Go.RowKit
set_option linter.unusedVariables false
set_option linter.unusedSimpArgs false

/-- The contract of l2say at depth d. -/
def SayAt (d : Nat) : Prop := ∀ (N : Nat) (c : Value × Value × Value × Value × Value) (v : Vl d) (deep : Nat) (w : World), VSeg (fun b => b < N) w d c v → N ≤ w.heap.size → goodB d v deep = true → partsV d v ≤ 40 →
  Calls Tryd.prog 17 #[.agg #[c.1, c.2.1, c.2.2.1, c.2.2.2.1, c.2.2.2.2]] w (SayEnd (sayV d v) w)

theorem below_next {w wx : World} {o : Obj} (h : Below (w.heap.size + 1) (w.alloc o) wx) : Below w.heap.size w wx := by
  have h1 : Below (w.alloc o).heap.size (w.alloc o) wx := by simp only [World.size_alloc]; exact h
  exact Below.on ((Below.refl _ _).alloc (Nat.le_refl _) o) h1

theorem below_on1 {w w1 w2 : World} {o : Obj} (h : Below (w.heap.size + 1) (w.alloc o) w1) (k : Below w1.heap.size w1 w2) : Below (w.heap.size + 1) (w.alloc o) w2 := h.trans (k.mono (by have := h.size; simp at this; omega))

theorem kidS_first {α : Type} (f : α → List Int) (m : Bool) (K : List (List Int)) (L : List α) : kidS f m K L 0 = [] := rfl

set_option maxHeartbeats 3000000 in
set_option maxRecDepth 100000 in
theorem l2say_list (d : Nat) (ih : SayAt d) (N : Nat) (vn : Int) (vK : List (List Int)) (vL : List (Vl d)) (a2 : Option Addr) (l2 p2 : Nat) (a3 : Option Addr) (p3 : Nat) (a4 : Option Addr) (p4 : Nat) (deep : Nat) (w : World) (hN : N ≤ w.heap.size)
    (hl : LSeg (fun b => b < N) w d (.slice a4 vL.length p4) vL) (hk : KSeg (fun b => b < N) w (.slice a3 vK.length p3) vK) (hkl : True) (hkt : True) (hg : ∀ j (h : j < vL.length), goodB d vL[j] deep = true) (hp : 1 + pre (partsV d) vL vL.length ≤ 40) (hn : vL.length ≤ 40) :
    Calls Tryd.prog 17 #[.agg #[.int .i64 4, .int .i64 vn, .slice a2 l2 p2, .slice a3 vK.length p3, .slice a4 vL.length p4]] w (SayEnd (91 :: (kidS (sayV d) false vK vL vL.length ++ [93])) w) := by
  have HL := hide' hl
  have HK := hide' hk
  have HI := hide' ih
  have HG := hide' hg
  have HKL := hide' hkl
  have HKT := hide' hkt
  have HPk : Hid (∀ k (h : k < vL.length), partsV d vL[k] ≤ 40) := fun k h => by
    have h3 := pre_succ (partsV d) vL k h
    have h4 := pre_le (partsV d) vL (k + 1)
    have h5 := pre_all (partsV d) vL
    omega
  have HKn : Hid (∀ k, k ≤ vL.length → (kidS (sayV d) false vK vL k).length ≤ 2400) := fun k h => by
    have h1 := kidS_len (sayV d) (partsV d) false vK vL (fun h => by simp at h) (fun j h => sayV_len d vL[j] deep (hg j h)) k h
    have h4 := pre_le (partsV d) vL k
    have h5 := pre_all (partsV d) vL
    omega
  have HStp : Hid (∀ k (h : k < vL.length), kidS (sayV d) false vK vL (k + 1) = kidS (sayV d) false vK vL k ++ (aheadS false vK k ++ sayV d vL[k])) := fun k h => kidS_succ _ _ _ _ k h
  have HLen : Hid (∀ k (h : k < vL.length), (sayV d vL[k]).length ≤ 2400) := fun k h => by
    have h1 := sayV_len d vL[k] deep (hg k h)
    have h2 := HPk.out k h
    omega
  have HZ : Hid (kidS (sayV d) false vK vL 0 = []) := rfl
  generalize hkid : kidS (sayV d) false vK vL = kid at *
  obtain ⟨ob, HOb⟩ : ∃ ob, Hid (ob = Obj.cells #[.int .i64 4, .int .i64 vn, .slice a2 l2 p2, .slice a3 vK.length p3, .slice a4 vL.length p4] 31) := ⟨_, rfl⟩
  have hB0 : Hid (Bts ((w.alloc ob).alloc (.cells #[.int .u8 91] 5)) (w.heap.size + 1) (.slice (some ⟨w.heap.size + 1, 0, none⟩) 1 1) [91]) := by
    have h := bts_one (w.alloc ob) 91 (by unfold Byt; omega)
    simp only [World.size_alloc] at h
    exact h
  have hb0 : Hid (Below (w.heap.size + 1) (w.alloc ob) ((w.alloc ob).alloc (.cells #[.int .u8 91] 5))) := (Below.refl _ _).alloc (by simp) _
  have HBox : Hid (∀ wx, Below (w.heap.size + 1) (w.alloc ob) wx → wx.cell? ⟨w.heap.size, 0, none⟩ = some (.int .i64 4) ∧ wx.cell? ⟨w.heap.size, 1, none⟩ = some (.int .i64 vn) ∧ wx.cell? ⟨w.heap.size, 2, none⟩ = some (.slice a2 l2 p2) ∧ wx.cell? ⟨w.heap.size, 3, none⟩ = some (.slice a3 vK.length p3) ∧ wx.cell? ⟨w.heap.size, 4, none⟩ = some (.slice a4 vL.length p4)) := fun wx hb => by
    have h1 : Below (w.alloc ob).heap.size (w.alloc ob) wx := by simp only [World.size_alloc]; exact hb
    have h2 := box_row h1
    rw [HOb.out] at h2
    obtain ⟨y0, y1, y2, y3, y4, _⟩ := row5 h2
    exact ⟨y0, y1, y2, y3, y4⟩
  clear hl hk hg ih hkid hp hkl hkt
  rw [HOb.out] at hB0 hb0
  have HB0 := hB0
  have Hb0 := hb0
  clear hB0 hb0
  go_enter Tryd.func17, Tryd.ntmps17
  go_wp2
  go_loopw [5, 6] (fun y i wr => ∃ k : Nat, k ≤ vL.length ∧ i = .int .i64 k ∧ Hid (Bts wr (w.heap.size + 1) y (91 :: kid k)) ∧ Hid (Below (w.heap.size + 1) (w.alloc ob) wr)) (fun _ i _ => vL.length - (intOf i).toNat)
  case atStart => exact ⟨0, Nat.zero_le _, rfl, by rw [HZ.out]; exact HB0, by rw [HOb.out]; exact Hb0⟩
  case round =>
    obtain ⟨k, hk, rfl, hB, hbel⟩ := hrel
    obtain ⟨ya, yc, rfl, _, _, _, _, kk⟩ := hB.out.shape
    obtain ⟨y0, y1, y2, y3, y4⟩ := HBox.out wr hbel.out
    have B := below_next hbel.out
    have hz := hbel.out.size
    simp only [World.size_alloc] at hz
    have hkn := HKn.out k hk
    have HOwn := hide' hB.out.own
    obtain ⟨zs, hzs⟩ : ∃ zs, zs = 91 :: kid k := ⟨_, rfl⟩
    have hzl : zs.length ≤ 2401 := by rw [hzs]; simp; omega
    by_cases hlt : k < vL.length
    · have hlt' : (k : Int) < (vL.length : Int) := by omega
      obtain ⟨b, off, c, rfl, h5', hv⟩ := HL.out.at B hN hlt
      obtain ⟨c0, c1', c2, c3, c4⟩ := c
      have HFive : Hid (∀ wx, Below (w.heap.size + 1) (w.alloc ob) wx → wx.cell? ⟨b, off + k * 5, none⟩ = some c0 ∧ wx.cell? ⟨b, off + k * 5 + 1, none⟩ = some c1' ∧ wx.cell? ⟨b, off + k * 5 + 2, none⟩ = some c2 ∧ wx.cell? ⟨b, off + k * 5 + 3, none⟩ = some c3 ∧ wx.cell? ⟨b, off + k * 5 + 4, none⟩ = some c4) := fun wx hb => five_same HL.out (below_next hb) B hN hlt h5'
      obtain ⟨q0, q1, q2, q3, q4⟩ := h5'
      simp only at q0 q1 q2 q3 q4
      have hst := HStp.out k hlt
      have hkl8 := HLen.out k hlt
      have HC : Hid (∀ wx, Below (w.heap.size + 1) (w.alloc ob) wx → Calls Tryd.prog 17 #[.agg #[c0, c1', c2, c3, c4]] wx (SayEnd (sayV d vL[k]) wx)) := fun wx hb => HI.out N (c0, c1', c2, c3, c4) vL[k] deep wx (hv wx (below_next hb)) (by have := (below_next hb).size; omega) (HG.out k hlt) (HPk.out k hlt)
      generalize sayV d vL[k] = ks at *
      rw [← hzs] at hB HOwn
      have hzl2 : zs.length = (91 :: kid k).length := by rw [hzs]
      rw [← hzl2]
      by_cases hk0 : k = 0
      · have HSt : 91 :: kid (k + 1) = zs ++ ks := by rw [hst, hzs]; simp [aheadS, hk0]
        have hk0' : ¬ (0 : Int) < (k : Int) := by omega
        replace HSt := hide' HSt
        clear hst hzs hzl2 hv hk0 
        go_wp2_with fail
        refine (HC.out wr (hbel.out)).mono ?_
        rintro e w8 ⟨a8, c8, rfl, hs8, k8, _, b8⟩
        have hb8 : Hid (Below (w.heap.size + 1) (w.alloc ob) w8) := below_on1 (hbel.out) b8
        have hv8 := hide' ((hB.out).grow b8)
        have hz8 : w.heap.size + 1 ≤ w8.heap.size := by have := hb8.out.size; simpa using this
        clear b8 HC
        go_wp2_with (at_builtin; refine wpList_append_seg rfl (.tmp 62) (.tmp 68) (by rfl) (w.heap.size + 1) (.slice ya zs.length yc) (zs) ks (by rfl) hv8.out a8 ks.length c8 rfl (by rfl) hs8 k8 (by (try simp); omega) (by omega) ?_; intro v9 w9 hv9 hg9; have hb9 := hide' (hb8.out.grown hg9 hz8 (HOwn.out)); replace hv9 := hide' hv9; clear hg9)
        go_roundw
        case rel => exact ⟨k + 1, by omega, by go_num, by rw [HSt.out]; exact hv9, hb9⟩
        case measure => simp [intOf]; omega
      · have HSt : 91 :: kid (k + 1) = (zs ++ [44, 32]) ++ ks := by rw [hst, hzs]; simp [aheadS, hk0]
        have hk0' : (0 : Int) < (k : Int) := by omega
        replace HSt := hide' HSt
        clear hst hzs hzl2 hv hk0 
        go_wp2_with (first | (at_builtin; refine wpList_append_text rfl (.tmp 49) (.const (.string { data := #[44, 32] })) 9 (by rfl) Tryd.underlying9 (w.heap.size + 1) (.slice ya zs.length yc) (zs) [44, 32] (by rfl) (hB.out) _ (by rfl) (by simp [Byt]) (by rfl) (by (try simp); omega) (by omega) ?_; intro v1 w1 hv1 hg1; have hb1 := hide' ((hbel.out).grown hg1 (by have := (hbel.out).size; simp at this; omega) (HOwn.out)); have hz1 : w.heap.size + 1 ≤ w1.heap.size := (by have := hb1.out.size; simpa using this); obtain ⟨p10, p11, p12, p13, p14⟩ := HBox.out w1 hb1.out; obtain ⟨r10, r11, r12, r13, r14⟩ := HFive.out w1 hb1.out; have HOwn1 := hide' hv1.own; replace hv1 := hide' hv1; clear hg1))
        refine (HC.out w1 (hb1.out)).mono ?_
        rintro e w8 ⟨a8, c8, rfl, hs8, k8, _, b8⟩
        have hb8 : Hid (Below (w.heap.size + 1) (w.alloc ob) w8) := below_on1 (hb1.out) b8
        have hv8 := hide' ((hv1.out).grow b8)
        have hz8 : w.heap.size + 1 ≤ w8.heap.size := by have := hb8.out.size; simpa using this
        clear b8 HC
        go_wp2_with (at_builtin; refine wpList_append_seg rfl (.tmp 62) (.tmp 68) (by rfl) (w.heap.size + 1) v1 (zs ++ [44, 32]) ks (by rfl) hv8.out a8 ks.length c8 rfl (by rfl) hs8 k8 (by (try simp); omega) (by omega) ?_; intro v9 w9 hv9 hg9; have hb9 := hide' (hb8.out.grown hg9 hz8 (HOwn1.out)); replace hv9 := hide' hv9; clear hg9)
        go_roundw
        case rel => exact ⟨k + 1, by omega, by go_num, by rw [HSt.out]; exact hv9, hb9⟩
        case measure => simp [intOf]; omega
    · have hkn' : k = vL.length := by omega
      have hlt' : ¬ (k : Int) < (vL.length : Int) := by omega
      have HF : Hid (91 :: (kid vL.length ++ [93]) = zs ++ [93]) := by show _ = _; rw [hzs, hkn']; simp
      rw [← hzs] at hB HOwn
      have hzl2 : zs.length = (91 :: kid k).length := by rw [hzs]
      rw [← hzl2]
      have hS1 := seg_one wr 93 (by unfold Byt; omega)
      have hA2 := hB.out.alloc (.cells #[.int .u8 93] 5)
      have hbA : Hid (∀ o : Obj, Below (w.heap.size + 1) (w.alloc ob) (wr.alloc o)) := fun o => hbel.out.alloc hz o
      clear hkn' hzs hzl2
      go_wp2_with (at_builtin; refine wpList_append_seg rfl _ _ (by rfl) (w.heap.size + 1) (.slice ya zs.length yc) zs [93] (by rfl) hA2 _ 1 1 rfl (by rfl) hS1 (by simp) (by (try simp); omega) (by (try simp); omega) ?_; intro v2 w2 hv2 hg2; have hb2 := hide' ((hbA.out _).grown hg2 (by (try simp); omega) HOwn.out); replace hv2 := hide' hv2; clear hg2)
      go_ret
      rw [HF.out]
      exact sayEnd_of (w1 := w.alloc ob) (by simp only [World.size_alloc]; exact hv2.out) (by simp) (below_next hb2.out)
end Go.Proofs.YtblnpjcmcjebkaaDoor
/-
  l2say of the specification: maps.
-/
namespace Go.Proofs.YtblnpjcmcjebkaaDoor
open Go.RowKit
set_option linter.unusedVariables false
set_option linter.unusedSimpArgs false

theorem key_same {N : Nat} {w wr wx : World} {b off n cap : Nat} {K : List (List Int)} {ta : Option Addr} {l tc : Nat} (h : KSeg (fun b => b < N) w (.slice (some ⟨b, off, none⟩) n cap) K) (hx : Below w.heap.size w wx) (hr : Below w.heap.size w wr) (hN : N ≤ w.heap.size) {k : Nat} (hk : k < K.length) (hq : wr.cell? ⟨b, off + k, none⟩ = some (.slice ta l tc)) :
    wx.cell? ⟨b, off + k, none⟩ = some (.slice ta l tc) ∧ Seg wx ta (K.getD k []) := by
  obtain ⟨a', cap', h1, h2, h3, h4, h5'⟩ := h.agree (agree_below (hx.mono hN))
  simp only [Value.slice.injEq] at h1
  obtain ⟨rfl, _, _⟩ := h1
  rcases h5' with h0 | ⟨b', off', e, hR, hc⟩
  · subst h0; simp at hk
  · simp only [Option.some.injEq, Addr.mk.injEq] at e
    obtain ⟨rfl, rfl, _⟩ := e
    have hcc : wx.cell? ⟨b, off + k, none⟩ = wr.cell? ⟨b, off + k, none⟩ := World.cell?_of_block ((hx.block b (by omega)).trans (hr.block b (by omega)).symm)
    obtain ⟨u, hu, a2, c2, rfl, s2, _⟩ := hc k hk
    have he := (hu.symm.trans hcc).trans hq
    simp only [Option.some.injEq, Value.slice.injEq] at he
    obtain ⟨rfl, rfl, rfl⟩ := he
    exact ⟨hu, s2⟩

set_option maxHeartbeats 3000000 in
set_option maxRecDepth 100000 in
theorem l2say_map (d : Nat) (ih : SayAt d) (N : Nat) (vn : Int) (vK : List (List Int)) (vL : List (Vl d)) (a2 : Option Addr) (l2 p2 : Nat) (a3 : Option Addr) (p3 : Nat) (a4 : Option Addr) (p4 : Nat) (deep : Nat) (w : World) (hN : N ≤ w.heap.size)
    (hl : LSeg (fun b => b < N) w d (.slice a4 vL.length p4) vL) (hk : KSeg (fun b => b < N) w (.slice a3 vK.length p3) vK) (hkl : vK.length = vL.length) (hkt : ∀ j, j < vK.length → (vK.getD j []).length ≤ 8) (hg : ∀ j (h : j < vL.length), goodB d vL[j] deep = true) (hp : 1 + pre (partsV d) vL vL.length ≤ 40) (hn : vL.length ≤ 40) :
    Calls Tryd.prog 17 #[.agg #[.int .i64 5, .int .i64 vn, .slice a2 l2 p2, .slice a3 vK.length p3, .slice a4 vL.length p4]] w (SayEnd (123 :: (kidS (sayV d) true vK vL vL.length ++ [125])) w) := by
  have HL := hide' hl
  have HK := hide' hk
  have HI := hide' ih
  have HG := hide' hg
  have HKL := hide' hkl
  have HKT := hide' hkt
  have HPk : Hid (∀ k (h : k < vL.length), partsV d vL[k] ≤ 40) := fun k h => by
    have h3 := pre_succ (partsV d) vL k h
    have h4 := pre_le (partsV d) vL (k + 1)
    have h5 := pre_all (partsV d) vL
    omega
  have HKn : Hid (∀ k, k ≤ vL.length → (kidS (sayV d) true vK vL k).length ≤ 2400) := fun k h => by
    have h1 := kidS_len (sayV d) (partsV d) true vK vL (fun _ j hj => hkt j (by omega)) (fun j h => sayV_len d vL[j] deep (hg j h)) k h
    have h4 := pre_le (partsV d) vL k
    have h5 := pre_all (partsV d) vL
    omega
  have HStp : Hid (∀ k (h : k < vL.length), kidS (sayV d) true vK vL (k + 1) = kidS (sayV d) true vK vL k ++ (aheadS true vK k ++ sayV d vL[k])) := fun k h => kidS_succ _ _ _ _ k h
  have HLen : Hid (∀ k (h : k < vL.length), (sayV d vL[k]).length ≤ 2400) := fun k h => by
    have h1 := sayV_len d vL[k] deep (hg k h)
    have h2 := HPk.out k h
    omega
  have HZ : Hid (kidS (sayV d) true vK vL 0 = []) := rfl
  generalize hkid : kidS (sayV d) true vK vL = kid at *
  obtain ⟨ob, HOb⟩ : ∃ ob, Hid (ob = Obj.cells #[.int .i64 5, .int .i64 vn, .slice a2 l2 p2, .slice a3 vK.length p3, .slice a4 vL.length p4] 31) := ⟨_, rfl⟩
  have hB0 : Hid (Bts ((w.alloc ob).alloc (.cells #[.int .u8 123] 5)) (w.heap.size + 1) (.slice (some ⟨w.heap.size + 1, 0, none⟩) 1 1) [123]) := by
    have h := bts_one (w.alloc ob) 123 (by unfold Byt; omega)
    simp only [World.size_alloc] at h
    exact h
  have hb0 : Hid (Below (w.heap.size + 1) (w.alloc ob) ((w.alloc ob).alloc (.cells #[.int .u8 123] 5))) := (Below.refl _ _).alloc (by simp) _
  have HBox : Hid (∀ wx, Below (w.heap.size + 1) (w.alloc ob) wx → wx.cell? ⟨w.heap.size, 0, none⟩ = some (.int .i64 5) ∧ wx.cell? ⟨w.heap.size, 1, none⟩ = some (.int .i64 vn) ∧ wx.cell? ⟨w.heap.size, 2, none⟩ = some (.slice a2 l2 p2) ∧ wx.cell? ⟨w.heap.size, 3, none⟩ = some (.slice a3 vK.length p3) ∧ wx.cell? ⟨w.heap.size, 4, none⟩ = some (.slice a4 vL.length p4)) := fun wx hb => by
    have h1 : Below (w.alloc ob).heap.size (w.alloc ob) wx := by simp only [World.size_alloc]; exact hb
    have h2 := box_row h1
    rw [HOb.out] at h2
    obtain ⟨y0, y1, y2, y3, y4, _⟩ := row5 h2
    exact ⟨y0, y1, y2, y3, y4⟩
  clear hl hk hg ih hkid hp hkl hkt
  rw [HOb.out] at hB0 hb0
  have HB0 := hB0
  have Hb0 := hb0
  clear hB0 hb0
  go_enter Tryd.func17, Tryd.ntmps17
  go_wp2
  go_loopw [5, 6] (fun y i wr => ∃ k : Nat, k ≤ vL.length ∧ i = .int .i64 k ∧ Hid (Bts wr (w.heap.size + 1) y (123 :: kid k)) ∧ Hid (Below (w.heap.size + 1) (w.alloc ob) wr)) (fun _ i _ => vL.length - (intOf i).toNat)
  case atStart => exact ⟨0, Nat.zero_le _, rfl, by rw [HZ.out]; exact HB0, by rw [HOb.out]; exact Hb0⟩
  case round =>
    obtain ⟨k, hk, rfl, hB, hbel⟩ := hrel
    obtain ⟨ya, yc, rfl, _, _, _, _, kk⟩ := hB.out.shape
    obtain ⟨y0, y1, y2, y3, y4⟩ := HBox.out wr hbel.out
    have B := below_next hbel.out
    have hz := hbel.out.size
    simp only [World.size_alloc] at hz
    have hkn := HKn.out k hk
    have HOwn := hide' hB.out.own
    obtain ⟨zs, hzs⟩ : ∃ zs, zs = 123 :: kid k := ⟨_, rfl⟩
    have hzl : zs.length ≤ 2401 := by rw [hzs]; simp; omega
    by_cases hlt : k < vL.length
    · have hlt' : (k : Int) < (vL.length : Int) := by omega
      obtain ⟨b, off, c, rfl, h5', hv⟩ := HL.out.at B hN hlt
      obtain ⟨c0, c1', c2, c3, c4⟩ := c
      have HFive : Hid (∀ wx, Below (w.heap.size + 1) (w.alloc ob) wx → wx.cell? ⟨b, off + k * 5, none⟩ = some c0 ∧ wx.cell? ⟨b, off + k * 5 + 1, none⟩ = some c1' ∧ wx.cell? ⟨b, off + k * 5 + 2, none⟩ = some c2 ∧ wx.cell? ⟨b, off + k * 5 + 3, none⟩ = some c3 ∧ wx.cell? ⟨b, off + k * 5 + 4, none⟩ = some c4) := fun wx hb => five_same HL.out (below_next hb) B hN hlt h5'
      obtain ⟨q0, q1, q2, q3, q4⟩ := h5'
      simp only at q0 q1 q2 q3 q4
      have hst := HStp.out k hlt
      have hkl8 := HLen.out k hlt
      have HC : Hid (∀ wx, Below (w.heap.size + 1) (w.alloc ob) wx → Calls Tryd.prog 17 #[.agg #[c0, c1', c2, c3, c4]] wx (SayEnd (sayV d vL[k]) wx)) := fun wx hb => HI.out N (c0, c1', c2, c3, c4) vL[k] deep wx (hv wx (below_next hb)) (by have := (below_next hb).size; omega) (HG.out k hlt) (HPk.out k hlt)
      have hlt3 : k < vK.length := by rw [HKL.out]; exact hlt
      have hlt3' : (k : Int) < (vK.length : Int) := by omega
      obtain ⟨bk, okk, rfl, hkc0⟩ := (HK.out.agree (agree_below (B.mono hN))).at hlt3
      obtain ⟨ta, tc, qk, _, _⟩ := hkc0 k hlt3
      have ktc : ta = none → tc = 0 := KSeg.none_at (HK.out.agree (agree_below (B.mono hN))) hlt3 qk
      have hkl9 := HKT.out k hlt3
      have HKey0 : Hid (∀ wx, Below (w.heap.size + 1) (w.alloc ob) wx → wx.cell? ⟨bk, okk + k, none⟩ = some (.slice ta (vK.getD k []).length tc) ∧ Seg wx ta (vK.getD k [])) := fun wx hb => key_same HK.out (below_next hb) B hN hlt3 qk
      obtain ⟨ts, hts⟩ : ∃ ts, ts = vK.getD k [] := ⟨_, rfl⟩
      rw [← hts] at HKey0 hkl9 qk
      have HKey : Hid (∀ wx, Below (w.heap.size + 1) (w.alloc ob) wx → wx.cell? ⟨bk, okk + k, none⟩ = some (.slice ta ts.length tc)) := fun wx hb => (HKey0.out wx hb).1
      have HKs : Hid (∀ wx, Below (w.heap.size + 1) (w.alloc ob) wx → Seg wx ta ts) := fun wx hb => (HKey0.out wx hb).2
      clear hkc0
      generalize sayV d vL[k] = ks at *
      rw [← hzs] at hB HOwn
      have hzl2 : zs.length = (123 :: kid k).length := by rw [hzs]
      rw [← hzl2]
      by_cases hk0 : k = 0
      · have HSt : 123 :: kid (k + 1) = ((zs ++ ts) ++ [32, 61, 32]) ++ ks := by rw [hst, hzs]; simp [aheadS, hk0, hts]
        have hk0' : ¬ (0 : Int) < (k : Int) := by omega
        replace HSt := hide' HSt
        clear hst hzs hzl2 hv hk0 hts
        go_wp2_with (first | (at_builtin; refine wpList_append_seg rfl (.tmp 54) (.tmp 59) (by rfl) (w.heap.size + 1) (.slice ya zs.length yc) (zs) ts (by rfl) (hB.out) ta ts.length tc rfl (by rfl) (HKs.out _ (hbel.out)) ktc (by (try simp); omega) (by omega) ?_; intro v1 w1 hv1 hg1; have hb1 := hide' ((hbel.out).grown hg1 (by have := (hbel.out).size; simp at this; omega) (HOwn.out)); have hz1 : w.heap.size + 1 ≤ w1.heap.size := (by have := hb1.out.size; simpa using this); obtain ⟨p10, p11, p12, p13, p14⟩ := HBox.out w1 hb1.out; obtain ⟨r10, r11, r12, r13, r14⟩ := HFive.out w1 hb1.out; have HOwn1 := hide' hv1.own; have hkc1 := HKey.out w1 hb1.out; replace hv1 := hide' hv1; clear hg1) | (at_builtin; refine wpList_append_text rfl (.tmp 60) (.const (.string { data := #[32, 61, 32] })) 9 (by rfl) Tryd.underlying9 (w.heap.size + 1) v1 (zs ++ ts) [32, 61, 32] (by rfl) (hv1.out) _ (by rfl) (by simp [Byt]) (by rfl) (by (try simp); omega) (by omega) ?_; intro v2 w2 hv2 hg2; have hb2 := hide' ((hb1.out).grown hg2 (by have := (hb1.out).size; simp at this; omega) (HOwn1.out)); have hz2 : w.heap.size + 1 ≤ w2.heap.size := (by have := hb2.out.size; simpa using this); obtain ⟨p20, p21, p22, p23, p24⟩ := HBox.out w2 hb2.out; obtain ⟨r20, r21, r22, r23, r24⟩ := HFive.out w2 hb2.out; have HOwn2 := hide' hv2.own; have hkc2 := HKey.out w2 hb2.out; replace hv2 := hide' hv2; clear hg2))
        refine (HC.out w2 (hb2.out)).mono ?_
        rintro e w8 ⟨a8, c8, rfl, hs8, k8, _, b8⟩
        have hb8 : Hid (Below (w.heap.size + 1) (w.alloc ob) w8) := below_on1 (hb2.out) b8
        have hv8 := hide' ((hv2.out).grow b8)
        have hz8 : w.heap.size + 1 ≤ w8.heap.size := by have := hb8.out.size; simpa using this
        clear b8 HC
        go_wp2_with (at_builtin; refine wpList_append_seg rfl (.tmp 62) (.tmp 68) (by rfl) (w.heap.size + 1) v2 ((zs ++ ts) ++ [32, 61, 32]) ks (by rfl) hv8.out a8 ks.length c8 rfl (by rfl) hs8 k8 (by (try simp); omega) (by omega) ?_; intro v9 w9 hv9 hg9; have hb9 := hide' (hb8.out.grown hg9 hz8 (HOwn2.out)); replace hv9 := hide' hv9; clear hg9)
        go_roundw
        case rel => exact ⟨k + 1, by omega, by go_num, by rw [HSt.out]; exact hv9, hb9⟩
        case measure => simp [intOf]; omega
      · have HSt : 123 :: kid (k + 1) = (((zs ++ [44, 32]) ++ ts) ++ [32, 61, 32]) ++ ks := by rw [hst, hzs]; simp [aheadS, hk0, hts]
        have hk0' : (0 : Int) < (k : Int) := by omega
        replace HSt := hide' HSt
        clear hst hzs hzl2 hv hk0 hts
        go_wp2_with (first | (at_builtin; refine wpList_append_text rfl (.tmp 49) (.const (.string { data := #[44, 32] })) 9 (by rfl) Tryd.underlying9 (w.heap.size + 1) (.slice ya zs.length yc) (zs) [44, 32] (by rfl) (hB.out) _ (by rfl) (by simp [Byt]) (by rfl) (by (try simp); omega) (by omega) ?_; intro v1 w1 hv1 hg1; have hb1 := hide' ((hbel.out).grown hg1 (by have := (hbel.out).size; simp at this; omega) (HOwn.out)); have hz1 : w.heap.size + 1 ≤ w1.heap.size := (by have := hb1.out.size; simpa using this); obtain ⟨p10, p11, p12, p13, p14⟩ := HBox.out w1 hb1.out; obtain ⟨r10, r11, r12, r13, r14⟩ := HFive.out w1 hb1.out; have HOwn1 := hide' hv1.own; have hkc1 := HKey.out w1 hb1.out; replace hv1 := hide' hv1; clear hg1) | (at_builtin; refine wpList_append_seg rfl (.tmp 54) (.tmp 59) (by rfl) (w.heap.size + 1) v1 (zs ++ [44, 32]) ts (by rfl) (hv1.out) ta ts.length tc rfl (by rfl) (HKs.out _ (hb1.out)) ktc (by (try simp); omega) (by omega) ?_; intro v2 w2 hv2 hg2; have hb2 := hide' ((hb1.out).grown hg2 (by have := (hb1.out).size; simp at this; omega) (HOwn1.out)); have hz2 : w.heap.size + 1 ≤ w2.heap.size := (by have := hb2.out.size; simpa using this); obtain ⟨p20, p21, p22, p23, p24⟩ := HBox.out w2 hb2.out; obtain ⟨r20, r21, r22, r23, r24⟩ := HFive.out w2 hb2.out; have HOwn2 := hide' hv2.own; have hkc2 := HKey.out w2 hb2.out; replace hv2 := hide' hv2; clear hg2) | (at_builtin; refine wpList_append_text rfl (.tmp 60) (.const (.string { data := #[32, 61, 32] })) 9 (by rfl) Tryd.underlying9 (w.heap.size + 1) v2 ((zs ++ [44, 32]) ++ ts) [32, 61, 32] (by rfl) (hv2.out) _ (by rfl) (by simp [Byt]) (by rfl) (by (try simp); omega) (by omega) ?_; intro v3 w3 hv3 hg3; have hb3 := hide' ((hb2.out).grown hg3 (by have := (hb2.out).size; simp at this; omega) (HOwn2.out)); have hz3 : w.heap.size + 1 ≤ w3.heap.size := (by have := hb3.out.size; simpa using this); obtain ⟨p30, p31, p32, p33, p34⟩ := HBox.out w3 hb3.out; obtain ⟨r30, r31, r32, r33, r34⟩ := HFive.out w3 hb3.out; have HOwn3 := hide' hv3.own; have hkc3 := HKey.out w3 hb3.out; replace hv3 := hide' hv3; clear hg3))
        refine (HC.out w3 (hb3.out)).mono ?_
        rintro e w8 ⟨a8, c8, rfl, hs8, k8, _, b8⟩
        have hb8 : Hid (Below (w.heap.size + 1) (w.alloc ob) w8) := below_on1 (hb3.out) b8
        have hv8 := hide' ((hv3.out).grow b8)
        have hz8 : w.heap.size + 1 ≤ w8.heap.size := by have := hb8.out.size; simpa using this
        clear b8 HC
        go_wp2_with (at_builtin; refine wpList_append_seg rfl (.tmp 62) (.tmp 68) (by rfl) (w.heap.size + 1) v3 (((zs ++ [44, 32]) ++ ts) ++ [32, 61, 32]) ks (by rfl) hv8.out a8 ks.length c8 rfl (by rfl) hs8 k8 (by (try simp); omega) (by omega) ?_; intro v9 w9 hv9 hg9; have hb9 := hide' (hb8.out.grown hg9 hz8 (HOwn3.out)); replace hv9 := hide' hv9; clear hg9)
        go_roundw
        case rel => exact ⟨k + 1, by omega, by go_num, by rw [HSt.out]; exact hv9, hb9⟩
        case measure => simp [intOf]; omega
    · have hkn' : k = vL.length := by omega
      have hlt' : ¬ (k : Int) < (vL.length : Int) := by omega
      have HF : Hid (123 :: (kid vL.length ++ [125]) = zs ++ [125]) := by show _ = _; rw [hzs, hkn']; simp
      rw [← hzs] at hB HOwn
      have hzl2 : zs.length = (123 :: kid k).length := by rw [hzs]
      rw [← hzl2]
      have hS1 := seg_one wr 125 (by unfold Byt; omega)
      have hA2 := hB.out.alloc (.cells #[.int .u8 125] 5)
      have hbA : Hid (∀ o : Obj, Below (w.heap.size + 1) (w.alloc ob) (wr.alloc o)) := fun o => hbel.out.alloc hz o
      clear hkn' hzs hzl2
      go_wp2_with (at_builtin; refine wpList_append_seg rfl _ _ (by rfl) (w.heap.size + 1) (.slice ya zs.length yc) zs [125] (by rfl) hA2 _ 1 1 rfl (by rfl) hS1 (by simp) (by (try simp); omega) (by (try simp); omega) ?_; intro v2 w2 hv2 hg2; have hb2 := hide' ((hbA.out _).grown hg2 (by (try simp); omega) HOwn.out); replace hv2 := hide' hv2; clear hg2)
      go_ret
      rw [HF.out]
      exact sayEnd_of (w1 := w.alloc ob) (by simp only [World.size_alloc]; exact hv2.out) (by simp) (below_next hb2.out)
end Go.Proofs.YtblnpjcmcjebkaaDoor
/-
  l2say of whatever value; ValText of the specification.
-/
namespace Go.Proofs.YtblnpjcmcjebkaaDoor
open Go.RowKit
set_option linter.unusedVariables false
set_option linter.unusedSimpArgs false

theorem shape_says {vk vn : Int} {vs : List Int} {vK : List (List Int)} {n : Nat} (h : shapeB vk vn vs vK n = true) :
    vs.length ≤ 20 ∧ (vk = 0 ∨ vk = 6 ∨ (vk = 1 ∧ (vn = 0 ∨ vn = 1)) ∨ (vk = 2 ∧ -1000000000000 ≤ vn ∧ vn ≤ 1000000000000) ∨ vk = 3 ∨ (vk = 4 ∧ vK.length = 0) ∨ (vk = 5 ∧ vK.length = n ∧ ascB vK = true)) := by
  unfold shapeB bareB intB at h
  simp only [Bool.and_eq_true, Bool.or_eq_true, decide_eq_true_eq] at h
  obtain ⟨⟨⟨⟨h1, h2⟩, h3⟩, h4⟩, h5⟩ := h
  have htx : textB vs = true → vs.length ≤ 20 := fun ht => by
    unfold textB at ht
    simp only [Bool.and_eq_true, decide_eq_true_eq] at ht
    exact ht.1
  rcases h5 with (((((h5 | h5) | h5) | h5) | h5) | h5) | h5
  · exact ⟨by omega, .inl h5⟩
  · exact ⟨by omega, .inr (.inl h5)⟩
  · exact ⟨by omega, .inr (.inr (.inl h5))⟩
  · exact ⟨by omega, .inr (.inr (.inr (.inl ⟨h5.1, h5.2.1, h5.2.2⟩)))⟩
  · exact ⟨htx h5.2, .inr (.inr (.inr (.inr (.inl h5.1))))⟩
  · exact ⟨by omega, .inr (.inr (.inr (.inr (.inr (.inl ⟨h5, by omega⟩)))))⟩
  · exact ⟨by omega, .inr (.inr (.inr (.inr (.inr (.inr ⟨h5.1, h5.2.1, h5.2.2⟩)))))⟩

theorem kids_less {d : Nat} (vL : List (Vl d)) : ∀ k, k ≤ vL.length → k ≤ pre (partsV d) vL k := by
  intro k
  induction k with
  | zero => intro _; exact Nat.zero_le _
  | succ k ih =>
    intro hk
    have h1 := pre_succ (partsV d) vL k (by omega)
    have h2 := ih (by omega)
    have h3 : 1 ≤ partsV d vL[k] := by
      cases d with
      | zero => exact (vL[k]).elim
      | succ d => exact parts_pos d _
    omega

theorem l2say_succ (d : Nat) (ih : SayAt d) : SayAt (d + 1) := by
  intro N c v deep w hv hN hg hlen
  obtain ⟨c0, c1, c2, c3, c4⟩ := c
  obtain ⟨vk, vn, vs, vK, vL⟩ := v
  obtain ⟨_, hsh, hkids⟩ := (good_succ _ _ _ _ _ _ _).1 hg
  obtain ⟨hvs, hk⟩ := shape_says hsh
  obtain ⟨e0, e1, ht, hK, hl⟩ := (VSeg_succ _ _ _ _ _).1 hv
  simp only at e0 e1 ht hK hl
  subst e0
  subst e1
  rw [parts_succ] at hlen
  have hfew := kids_less vL vL.length (Nat.le_refl _)
  have hl' := hl
  have hK' := hK
  obtain ⟨a2, p2, rfl, s2, l2, m2, k2, r2⟩ := ht
  obtain ⟨a3, p3, rfl, _⟩ := hK
  obtain ⟨a4, p4, rfl, _⟩ := hl
  rcases hk with rfl | rfl | ⟨rfl, rfl | rfl⟩ | ⟨rfl, hlo, hhi⟩ | rfl | ⟨rfl, h0⟩ | ⟨rfl, h1, h2⟩
  · rw [sayV_null]; exact l2say_null vn vs a2 p2 a3 _ p3 a4 _ p4 w
  · rw [sayV_unknown]; exact l2say_unknown vn vs a2 p2 a3 _ p3 a4 _ p4 w
  · rw [sayV_bool]; exact l2say_false 0 vs a2 p2 a3 _ p3 a4 _ p4 w
  · rw [sayV_bool]; exact l2say_true 1 vs a2 p2 a3 _ p3 a4 _ p4 w
  · rw [sayV_int]; exact l2say_int vn vs a2 p2 a3 _ p3 a4 _ p4 w hlo hhi
  · rw [sayV_text]; exact l2say_text vn vs a2 p2 a3 _ p3 a4 _ p4 w s2 (by omega)
  · rw [sayV_list]; exact l2say_list d ih N vn vK vL a2 _ p2 a3 p3 a4 p4 (deep + 1) w hN hl' hK' trivial trivial hkids hlen (by omega)
  · rw [sayV_map]; exact l2say_map d ih N vn vK vL a2 _ p2 a3 p3 a4 p4 (deep + 1) w hN hl' hK' h1 (fun j hj => asc_few h2 j hj) hkids hlen (by omega)

theorem l2say_any (d : Nat) : SayAt d := by
  induction d with
  | zero => intro N c v deep w hv; exact hv.elim
  | succ d ih => exact l2say_succ d ih

theorem ok_says {d : Nat} {v : Vl d} (h : okB d v = true) : goodB d v 1 = true ∧ partsV d v ≤ 40 := by
  unfold okB at h
  simp only [Bool.and_eq_true, decide_eq_true_eq] at h
  exact h

set_option maxHeartbeats 1600000 in
set_option maxRecDepth 100000 in
theorem spec_ValText_any (d N : Nat) (c0 c1 c2 c3 c4 : Value) (v : Vl d) (w : World) (hv : VSeg (fun b => b < N) w d (c0, c1, c2, c3, c4) v) (hN : N ≤ w.heap.size) :
    Calls Tryd.prog 5 #[.agg #[c0, c1, c2, c3, c4]] w (SayEnd (valText d v) w) := by
  have b0 : ∀ o : Obj, Below w.heap.size w (w.alloc o) := fun o => (Below.refl _ _).alloc (Nat.le_refl _) o
  have Hb := hide' b0
  have HC : Hid (∀ wx, Below w.heap.size w wx → Calls Tryd.prog 16 #[.agg #[c0, c1, c2, c3, c4]] wx fun e w' => e = .returned (.bool (okB d v)) ∧ Below wx.heap.size wx w') := fun wx hb =>
    spec_ValOk_any d N c0 c1 c2 c3 c4 v wx (VSeg.agree (agree_below (hb.mono hN)) d hv) (by have := hb.size; omega)
  have HP : Hid (okB d v = true → ∀ wx, Below w.heap.size w wx → Calls Tryd.prog 17 #[.agg #[c0, c1, c2, c3, c4]] wx (SayEnd (valText d v) wx)) := fun hok wx hb => by
    obtain ⟨h1, h2⟩ := ok_says hok
    rw [valText, if_pos hok]
    exact l2say_any d N (c0, c1, c2, c3, c4) v 1 wx (VSeg.agree (agree_below (hb.mono hN)) d hv) (by have := hb.size; omega) h1 h2
  obtain ⟨vk, vn, a2, l2, p2, a3, l3, p3, a4, l4, p4, rfl, rfl, rfl, rfl, rfl⟩ := VSeg.form d hv
  clear hv b0
  cases hok : okB d v with
  | true =>
    have HP2 := hide' (HP.out hok)
    rw [hok] at HC
    generalize valText d v = xs at *
    go_enter Tryd.func5, Tryd.ntmps5
    go_wp2_with fail
    refine (HC.out _ (Hb.out _)).mono ?_
    rintro e w1 ⟨rfl, b1⟩
    obtain ⟨y0, y1, y2, y3, y4, _⟩ := row5 (box_row b1)
    have B1 := Below.on (Hb.out _) b1
    clear b1
    go_wp2_with fail
    refine (HP2.out _ B1).mono ?_
    rintro e w2 ⟨a, c, rfl, hs, k, hx, b2⟩
    have B2 := Below.on B1 b2
    have hz := B1.size
    have HX := hide' hx
    have HS := hide' hs
    clear b2 hx hs
    go_wp2
    go_ret
    exact ⟨a, c, rfl, HS.out, k, fun x e => ⟨by have := (HX.out x e).1; omega, (HX.out x e).2⟩, B2⟩
  | false =>
    rw [hok] at HC
    have HF : Hid (valText d v = []) := by show _ = _; rw [valText, hok]; rfl
    go_enter Tryd.func5, Tryd.ntmps5
    go_wp2_with fail
    refine (HC.out _ (Hb.out _)).mono ?_
    rintro e w1 ⟨rfl, b1⟩
    have B1 := Below.on (Hb.out _) b1
    clear b1
    go_wp2
    go_ret
    rw [HF.out]
    exact ⟨none, 0, rfl, ⟨by simp, .inl rfl⟩, fun _ => rfl, by simp, B1⟩
end Go.Proofs.YtblnpjcmcjebkaaDoor
/-
  Blocks that hold no bytes stay where bytes are appended.
-/
namespace Go.Proofs.YtblnpjcmcjebkaaDoor
open Go.RowKit
set_option linter.unusedVariables false
set_option linter.unusedSimpArgs false

/-- All blocks that hold no bytes stay as they are. -/
def Kept (w w' : World) : Prop := ∀ (g : Nat) (cs : Array Value) (T : TypeId) (fr : Nat × Nat), w.heap[g]? = some (.cells cs T fr) → T ≠ 5 → w'.heap[g]? = some (.cells cs T fr)
theorem Kept.refl (w : World) : Kept w w := fun _ _ _ _ h _ => h
theorem Kept.trans {w w1 w2 : World} (h : Kept w w1) (k : Kept w1 w2) : Kept w w2 := fun g cs T fr hh hT => k g cs T fr (h g cs T fr hh hT) hT
theorem kept_below {w w' : World} (h : Below w.heap.size w w') : Kept w w' := fun g cs T fr hh _ => (h.block g (Array.getElem?_eq_some_iff.1 hh).1).trans hh
theorem kept_alloc (w : World) (o : Obj) : Kept w (w.alloc o) := kept_below ((Below.refl _ _).alloc (Nat.le_refl _) o)
theorem bts_box {w : World} {B : Nat} {v : Value} {xs : List Int} {g : Nat} {cs : Array Value} {T : TypeId} {fr : Nat × Nat} (h : Bts w B v xs) (hb : w.heap[g]? = some (.cells cs T fr)) (hT : T ≠ 5) : some g ≠ v.ownBlock := by
  intro e
  rcases h.2.2 with ⟨rfl, _⟩ | ⟨g', cap, cur, rfl, _, hh, _⟩
  · simp [Value.ownBlock] at e
  · simp [Value.ownBlock] at e
    subst e
    rw [hh] at hb
    simp at hb
    exact hT hb.2.1.symm
theorem kept_grown {w w' : World} {B : Nat} {v : Value} {xs : List Int} (h : Bts w B v xs) (hg : w.grownBy w' v.ownBlock) : Kept w w' := fun g cs T fr hh hT => (hg.block g (Array.getElem?_eq_some_iff.1 hh).1 (bts_box h hh hT)).trans hh
theorem kept_app {w0 w w' : World} {o : Obj} {B : Nat} {v : Value} {xs : List Int} (hk : Kept w0 w) (h : Bts (w.alloc o) B v xs) (hg : (w.alloc o).grownBy w' v.ownBlock) : Kept w0 w' := hk.trans ((kept_alloc w o).trans (kept_grown h hg))
theorem kept_app2 {w0 w w' : World} {o o' : Obj} {B : Nat} {v : Value} {xs : List Int} (hk : Kept w0 w) (h : Bts ((w.alloc o).alloc o') B v xs) (hg : ((w.alloc o).alloc o').grownBy w' v.ownBlock) : Kept w0 w' := hk.trans ((kept_alloc w o).trans ((kept_alloc _ o').trans (kept_grown h hg)))
end Go.Proofs.YtblnpjcmcjebkaaDoor
/-
  The datum of a map of parts while its keys are put; no statement is proved here.
-/
namespace Go.Proofs.YtblnpjcmcjebkaaDoor
open Go.RowKit
set_option linter.unusedVariables false

/-- How an element of a map of parts reads: as itself. -/
def tokR (v : Value) : Option (DataW Value × List MemPlace) := some (.held v, [])

/-- The map's datum after the first k of its keys were put. -/
def mapD (vK : List (List Int)) (ps : List Value) : Nat → DataW Value
  | 0 => .map []
  | k + 1 => (mapD vK ps k).put (.string (u8s (vK.getD k []))) (.held (ps.getD k .nilIface))

theorem below_grows {w w' : World} (h : Below w.heap.size w w') (r : Option Nat) : w.grownBy w' r := ⟨h.os, h.tape, h.output, h.size, fun k hk _ => h.block k hk⟩
end Go.Proofs.YtblnpjcmcjebkaaDoor
/-
  What the program's inner parts (an interface with one type a kind) hold: 'PSeg' reads one as a value; lists and maps of them.
-/
namespace Go.Proofs.YtblnpjcmcjebkaaDoor
open Go.RowKit
set_option linter.unusedVariables false
set_option linter.unusedSimpArgs false

/-- A part of the program's reads as a value of depth at most d; it lies in blocks of R. -/
def PSeg (R : Nat → Prop) (w : World) : (d : Nat) → Value → Vl d → Prop
  | 0, _, _ => False
  | d + 1, p, v =>
    (v.1 = 0 ∧ p = .iface 60 (.agg #[])) ∨ (v.1 = 6 ∧ p = .iface 80 (.agg #[])) ∨
    (v.1 = 1 ∧ p = .iface 62 (.agg #[.int .i64 v.2.1])) ∨ (v.1 = 2 ∧ p = .iface 64 (.agg #[.int .i64 v.2.1])) ∨
    (v.1 = 3 ∧ p = .iface 67 (.agg #[.string (strOf v.2.2.1)])) ∨
    (v.1 = 4 ∧ ∃ a cap, p = .iface 71 (.agg #[.slice a v.2.2.2.2.length cap]) ∧ (v.2.2.2.2 = [] ∨ ∃ b off, a = some ⟨b, off, none⟩ ∧ R b ∧ ∀ i (h : i < v.2.2.2.2.length), ∃ u, w.cell? ⟨b, off + i, none⟩ = some u ∧ PSeg R w d u (v.2.2.2.2[i]))) ∨
    (v.1 = 5 ∧ ∃ b ps, p = .iface 75 (.agg #[.map (some b)]) ∧ R b ∧ w.ownsMap Tryd.prog 9 tokR b 64 (mapD v.2.2.2.1 ps v.2.2.2.2.length) ∧ ∀ i (h : i < v.2.2.2.2.length), PSeg R w d (ps.getD i .nilIface) (v.2.2.2.2[i]))

/-- A slice of parts. -/
def PLSeg (R : Nat → Prop) (w : World) (d : Nat) (x : Value) (l : List (Vl d)) : Prop :=
  ∃ a cap, x = .slice a l.length cap ∧ (l = [] ∨ ∃ b off, a = some ⟨b, off, none⟩ ∧ R b ∧ ∀ i (h : i < l.length), ∃ u, w.cell? ⟨b, off + i, none⟩ = some u ∧ PSeg R w d u (l[i]))

theorem ownsMap_agree {R : Nat → Prop} {w w' : World} {b n : Nat} {D : DataW Value} (h : w.ownsMap Tryd.prog 9 tokR b n D) (ha : Agree R w w') (hb : R b) : w'.ownsMap Tryd.prog 9 tokR b n D := by
  obtain ⟨es, clock, h1, r⟩ := h
  exact ⟨es, clock, (ha b hb).trans h1, r⟩

theorem PSeg.carry {R R' : Nat → Prop} {w w' : World} (hr : ∀ b, R b → R' b) (ha : Agree R w w') (d : Nat) : ∀ {p : Value} {v : Vl d}, PSeg R w d p v → PSeg R' w' d p v := by
  induction d with
  | zero => intro p v h; exact h
  | succ d ih =>
    intro p v h
    rcases h with h | h | h | h | h | ⟨hk, a, cap, hp, hc⟩ | ⟨hk, b, ps, hp, hR, hm, hc⟩
    · exact .inl h
    · exact .inr (.inl h)
    · exact .inr (.inr (.inl h))
    · exact .inr (.inr (.inr (.inl h)))
    · exact .inr (.inr (.inr (.inr (.inl h))))
    · refine .inr (.inr (.inr (.inr (.inr (.inl ⟨hk, a, cap, hp, ?_⟩)))))
      rcases hc with h0 | ⟨b, off, e, hR, hc⟩
      · exact .inl h0
      · refine .inr ⟨b, off, e, hr b hR, fun i hi => ?_⟩
        obtain ⟨u, hu, hv⟩ := hc i hi
        exact ⟨u, (cell_agree ha hR).trans hu, ih hv⟩
    · exact .inr (.inr (.inr (.inr (.inr (.inr ⟨hk, b, ps, hp, hr b hR, ownsMap_agree hm ha hR, fun i hi => ih (hc i hi)⟩)))))

/-- What take leaves of all that was there: all but the block of its counter. -/
theorem agree_grown {N q : Nat} {w w' : World} (h : w.grownBy w' (some q)) (hN : N ≤ q) (hq : q < w.heap.size) : Agree (fun b => b < N) w w' := fun b hb => h.block b (by omega) (by simp; omega)

theorem run_makeMapN (t k e : TypeId) (n : Int) (w : World) (ht : Tryd.prog.underlying t = some (.map k e)) : (Instr.makeMap t (some (.int .i64 n))).run Tryd.prog w = .ok (.map (some w.heap.size)) (w.alloc (.map #[] 0)) := by
  unfold Instr.makeMap
  simp only [Sem.run_bind, Sem.run_pure, run_underlying ht, Result.andThen]
  rfl

theorem info_part : (Tryd.prog.info? 45).map (fun i => (i.zero, i.size, i.bytes)) = some (some .nilIface, 1, 16) := by kernel_rfl

/-- The counter of an intake. -/
def Cnt (w : World) (q : Nat) (n : Nat) : Prop := w.heap[q]? = some (.cells #[.int .i64 n] 57 (0, 0))

/-- What a good take has brought about. -/
def Took (d : Nat) (v : Vl d) (deep n q : Nat) (w w' : World) (p : Value) : Prop :=
  goodB d v deep = true ∧ n + partsV d v ≤ 40 ∧ Cnt w' q (n + partsV d v) ∧ PSeg (fun b => w.heap.size ≤ b ∧ b < w'.heap.size) w' d p v

/-- The contract of take at depth d. -/
def TakeAt (d : Nat) : Prop := ∀ (N q n : Nat) (c : Value × Value × Value × Value × Value) (v : Vl d) (deep : Nat) (w : World), VSeg (fun b => b < N) w d c v → N ≤ q → q < w.heap.size → Cnt w q n → n ≤ 40 → deep ≤ 6 →
  Calls Tryd.prog 30 #[.pointer (some ⟨q, 0, none⟩), .agg #[c.1, c.2.1, c.2.2.1, c.2.2.2.1, c.2.2.2.2], .int .i64 deep] w fun e w' =>
    w.grownBy w' (some q) ∧ ((∃ p, e = .returned (.tuple #[p, .bool true]) ∧ Took d v deep n q w w' p) ∨ (e = .returned (.tuple #[.nilIface, .bool false]) ∧ ¬ (goodB d v deep = true ∧ n + partsV d v ≤ 40)))

theorem Cnt.cell {w : World} {q n : Nat} (h : Cnt w q n) : w.cell? ⟨q, 0, none⟩ = some (.int .i64 n) ∧ w.frozen? ⟨q, 0, none⟩ = false := by
  refine ⟨?_, frozen_of_row w q 0 _ _ h⟩
  rw [cell_of_row w q 0 _ _ (0, 0) h]
  rfl

theorem Cnt.set {w : World} {q n : Nat} (h : Cnt w q n) (m : Nat) : Cnt (w.setCell ⟨q, 0, none⟩ (.int .i64 m)) q m := heap_setCell_same w q 0 _ _ _ h
end Go.Proofs.YtblnpjcmcjebkaaDoor
/-
  Which type a part is: the type assertions of a part, at each type.
-/
namespace Go.Proofs.YtblnpjcmcjebkaaDoor
open Go.RowKit
set_option linter.unusedVariables false
set_option linter.unusedSimpArgs false

theorem nobool_nullPart (x : Value) (w : World) : (Instr.typeAssert (.iface 60 x) 45 62 true).run Tryd.prog w = .ok (.tuple #[.agg #[.int .i64 0], .bool false]) w := by kernel_rfl
theorem nobool_unknownPart (x : Value) (w : World) : (Instr.typeAssert (.iface 80 x) 45 62 true).run Tryd.prog w = .ok (.tuple #[.agg #[.int .i64 0], .bool false]) w := by kernel_rfl
theorem nobool_intPart (x : Value) (w : World) : (Instr.typeAssert (.iface 64 x) 45 62 true).run Tryd.prog w = .ok (.tuple #[.agg #[.int .i64 0], .bool false]) w := by kernel_rfl
theorem nobool_textPart (x : Value) (w : World) : (Instr.typeAssert (.iface 67 x) 45 62 true).run Tryd.prog w = .ok (.tuple #[.agg #[.int .i64 0], .bool false]) w := by kernel_rfl
theorem nobool_listPart (x : Value) (w : World) : (Instr.typeAssert (.iface 71 x) 45 62 true).run Tryd.prog w = .ok (.tuple #[.agg #[.int .i64 0], .bool false]) w := by kernel_rfl
theorem nobool_mapPart (x : Value) (w : World) : (Instr.typeAssert (.iface 75 x) 45 62 true).run Tryd.prog w = .ok (.tuple #[.agg #[.int .i64 0], .bool false]) w := by kernel_rfl
theorem noint_nullPart (x : Value) (w : World) : (Instr.typeAssert (.iface 60 x) 45 64 true).run Tryd.prog w = .ok (.tuple #[.agg #[.int .i64 0], .bool false]) w := by kernel_rfl
theorem noint_unknownPart (x : Value) (w : World) : (Instr.typeAssert (.iface 80 x) 45 64 true).run Tryd.prog w = .ok (.tuple #[.agg #[.int .i64 0], .bool false]) w := by kernel_rfl
theorem noint_textPart (x : Value) (w : World) : (Instr.typeAssert (.iface 67 x) 45 64 true).run Tryd.prog w = .ok (.tuple #[.agg #[.int .i64 0], .bool false]) w := by kernel_rfl
theorem noint_listPart (x : Value) (w : World) : (Instr.typeAssert (.iface 71 x) 45 64 true).run Tryd.prog w = .ok (.tuple #[.agg #[.int .i64 0], .bool false]) w := by kernel_rfl
theorem noint_mapPart (x : Value) (w : World) : (Instr.typeAssert (.iface 75 x) 45 64 true).run Tryd.prog w = .ok (.tuple #[.agg #[.int .i64 0], .bool false]) w := by kernel_rfl
theorem notext_nullPart (x : Value) (w : World) : (Instr.typeAssert (.iface 60 x) 45 67 true).run Tryd.prog w = .ok (.tuple #[.agg #[.string ⟨#[]⟩], .bool false]) w := by kernel_rfl
theorem notext_unknownPart (x : Value) (w : World) : (Instr.typeAssert (.iface 80 x) 45 67 true).run Tryd.prog w = .ok (.tuple #[.agg #[.string ⟨#[]⟩], .bool false]) w := by kernel_rfl
theorem notext_listPart (x : Value) (w : World) : (Instr.typeAssert (.iface 71 x) 45 67 true).run Tryd.prog w = .ok (.tuple #[.agg #[.string ⟨#[]⟩], .bool false]) w := by kernel_rfl
theorem notext_mapPart (x : Value) (w : World) : (Instr.typeAssert (.iface 75 x) 45 67 true).run Tryd.prog w = .ok (.tuple #[.agg #[.string ⟨#[]⟩], .bool false]) w := by kernel_rfl
theorem nolist_nullPart (x : Value) (w : World) : (Instr.typeAssert (.iface 60 x) 45 71 true).run Tryd.prog w = .ok (.tuple #[.agg #[.slice none 0 0], .bool false]) w := by kernel_rfl
theorem nolist_unknownPart (x : Value) (w : World) : (Instr.typeAssert (.iface 80 x) 45 71 true).run Tryd.prog w = .ok (.tuple #[.agg #[.slice none 0 0], .bool false]) w := by kernel_rfl
theorem nolist_mapPart (x : Value) (w : World) : (Instr.typeAssert (.iface 75 x) 45 71 true).run Tryd.prog w = .ok (.tuple #[.agg #[.slice none 0 0], .bool false]) w := by kernel_rfl
theorem nomap_nullPart (x : Value) (w : World) : (Instr.typeAssert (.iface 60 x) 45 75 true).run Tryd.prog w = .ok (.tuple #[.agg #[.map none], .bool false]) w := by kernel_rfl
theorem nomap_unknownPart (x : Value) (w : World) : (Instr.typeAssert (.iface 80 x) 45 75 true).run Tryd.prog w = .ok (.tuple #[.agg #[.map none], .bool false]) w := by kernel_rfl
theorem is_boolPart (x : Value) (w : World) : (Instr.typeAssert (.iface 62 x) 45 62 true).run Tryd.prog w = .ok (.tuple #[x, .bool true]) w := by kernel_rfl
theorem is_intPart (x : Value) (w : World) : (Instr.typeAssert (.iface 64 x) 45 64 true).run Tryd.prog w = .ok (.tuple #[x, .bool true]) w := by kernel_rfl
theorem is_textPart (x : Value) (w : World) : (Instr.typeAssert (.iface 67 x) 45 67 true).run Tryd.prog w = .ok (.tuple #[x, .bool true]) w := by kernel_rfl
theorem is_listPart (x : Value) (w : World) : (Instr.typeAssert (.iface 71 x) 45 71 true).run Tryd.prog w = .ok (.tuple #[x, .bool true]) w := by kernel_rfl
theorem is_mapPart (x : Value) (w : World) : (Instr.typeAssert (.iface 75 x) 45 75 true).run Tryd.prog w = .ok (.tuple #[x, .bool true]) w := by kernel_rfl

end Go.Proofs.YtblnpjcmcjebkaaDoor
