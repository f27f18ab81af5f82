/-
  Texts that a law leans on, one behind the other; no statement is proved here.
-/
import Derived.Test.YtdnodgngamcgcaaPk9
import Derived.Test.YtdnodgngamcgcaaPk10
import Derived.Test.YtdnodgngamcgcaaPk13
/-
  ValKeys of the program: the keys of a map, of the call's own.
-/
namespace Go.Proofs.Ytdnodgngamcgcaa
open Go.RowKit Go.Shelf
set_option linter.unusedVariables false
set_option linter.unusedSimpArgs false

/-- The keys of a value that may be. -/
def keysV : (d : Nat) → Vl d → List (List Int)
  | 0, _ => []
  | d + 1, v => if okB (d + 1) v = true then v.2.2.2.1 else []

theorem keys_no {d : Nat} {v : Vl d} (h : ¬ (okB d v = true ∧ kindV d v = 5)) : keysV d v = [] := by
  cases d with
  | zero => rfl
  | succ d =>
    obtain ⟨vk, vn, vs, vK, vL⟩ := v
    show (if okB (d + 1) (vk, vn, vs, vK, vL) = true then vK else []) = []
    by_cases hok : okB (d + 1) (vk, vn, vs, vK, vL) = true
    · rw [if_pos hok]
      have hk : vk ≠ 5 := fun e => h ⟨hok, e⟩
      simp only [okB, Bool.and_eq_true] at hok
      obtain ⟨_, hsh, _⟩ := (good_succ _ _ _ _ _ _ _).1 hok.1
      rcases (shape_zero hsh).2.2.1 with h5 | h5
      · exact absurd h5 hk
      · exact h5
    · rw [if_neg hok]

theorem field_K (c0 c1 c2 c3 c4 : Value) (h0 : c0.cells.size = 1) (h1 : c1.cells.size = 1) (h2 : c2.cells.size = 1) (h3 : c3.cells.size = 1) (h4 : c4.cells.size = 1) (w : World) : (Instr.field 30 (.agg #[c0, c1, c2, c3, c4]) 3).run Try.prog w = .ok c3 w := by kernel_rfl

/-- What ValKeys leaves. -/
def KeyEnd (d : Nat) (v : Vl d) (w : World) (e : Ending) (w' : World) : Prop := ∃ u, e = .returned u ∧ ∃ B, KOwn w' u (keysV d v) B ∧ (∀ b ∈ B, w.heap.size ≤ b ∧ b < w'.heap.size) ∧ Below w.heap.size w w'

set_option maxHeartbeats 1600000 in
set_option maxRecDepth 100000 in
theorem impl_ValKeys_any (d N : Nat) (c0 c1 c2 c3 c4 : Value) (v : Vl d) (w : World) (hv : VSeg (fun b => b < N) w d (c0, c1, c2, c3, c4) v) (hN : N ≤ w.heap.size) :
    Calls Try.prog 19 #[.agg #[c0, c1, c2, c3, c4]] w (KeyEnd d v w) := by
  have HA : Hid (∀ o : Obj, Below w.heap.size w (w.alloc o)) := fun o => (Below.refl _ _).alloc (Nat.le_refl _) o
  have HP : Hid (∀ o : Obj, Calls Try.prog 31 #[.agg #[c0, c1, c2, c3, c4]] (w.alloc o) (MapOf d v (w.alloc o))) := fun o => mapOf_any d N c0 c1 c2 c3 c4 v _ (VSeg.agree (fun b (h : b < N) => (HA.out o).block b (by omega)) d hv) (by simp; omega)
  clear hv
  go_enter Try.func19, Try.ntmps19
  go_wp2_with fail
  refine (HP.out _).mono ?_
  rintro e w1 ⟨b1, ⟨b, rfl, hok, hk, hp⟩ | ⟨rfl, hno⟩⟩
  · have hB1 := Below.on (HA.out _) b1
    have HB1 := hide' hB1
    have HV : Hid (∀ o : Obj, Calls Try.prog 32 #[.iface 52 (.agg #[.map (some b)])] (w1.alloc o) (ValEnd d v (w1.alloc o))) := by
      intro o
      simp only [okB, Bool.and_eq_true, decide_eq_true_eq] at hok
      refine valueOf_any d w1.heap.size _ v 1 _ (PSeg.carry (fun b' h => h.2) (fun b' h => Below.heap_alloc w1 o b' h.2) d hp) (by simp) hok.1 hok.2
    have HBo : Hid (∀ o : Obj, Below w.heap.size w (w1.alloc o)) := fun o => hB1.alloc hB1.size o
    have Hok := hide' hok
    clear hB1 hp HP b1 hok
    go_wp2_with fail
    refine (HV.out _).mono ?_
    rintro e w2 ⟨u0, u1, u2, u3, u4, rfl, B, hO, hB, hb2⟩
    have hbn := hide' (Below.on (HBo.out _) hb2)
    obtain ⟨uk, un, s2, n2, r2, s3, n3, r3, s4, n4, r4, rfl, rfl, rfl, rfl, rfl⟩ := VOwn.form d hO
    replace hO := hide' hO
    replace hB := hide' hB
    clear hb2
    have hfK := field_K (.int .i64 uk) (.int .i64 un) (.slice s2 n2 r2) (.slice s3 n3 r3) (.slice s4 n4 r4) rfl rfl rfl rfl rfl
    go_wp2_with fail
    go_ret
    cases d with
    | zero => exact hO.out.elim
    | succ d =>
      obtain ⟨_, _, Bs, Bk, Bl, _, hK, _, rfl, _⟩ := (VOwn_succ _ _ _ _ _).1 hO.out
      have hkeys : keysV (d + 1) v = v.2.2.2.1 := if_pos Hok.out
      refine ⟨_, rfl, Bk, by rw [hkeys]; exact hK, fun b' hb' => ?_, hbn.out⟩
      have h1 := hB.out b' (by simp [hb'])
      have h2 := (HBo.out (.cells #[.map (some b)] 52)).size
      omega
  · have hB1 := Below.on (HA.out _) b1
    have HBo : Hid (∀ o : Obj, Below w.heap.size w (w1.alloc o)) := fun o => hB1.alloc hB1.size o
    have hkn := hide' (keys_no hno)
    clear hno HP b1 hB1
    go_wp2_with fail
    go_ret
    exact ⟨_, rfl, [], by rw [hkn.out]; exact kNil _, by simp, HBo.out _⟩
end Go.Proofs.Ytdnodgngamcgcaa
/-
  ValKeys of the specification: the keys of a map, of the call's own.
-/
namespace Go.Proofs.Ytdnodgngamcgcaa
open Go.RowKit Go.Shelf
set_option linter.unusedVariables false
set_option linter.unusedSimpArgs false

theorem rwk_step {w1 wr w5 w6 : World} {ks : List (List Int)} {x v5 : Value} {k g cp : Nat} {cs : List (List Value)} {Bi : List (List Nat)} {o : Obj} (h : RW 22 1 (ItK ks) wr w1.heap.size x k cs Bi) (hb : Below w1.heap.size w1 wr) (b5 : Below wr.heap.size wr w5) (hv : Bts w5 wr.heap.size v5 (ks.getD k []))
    (hown : w6.ownsRow w1.heap.size 22 1 (.slice (some ⟨g, 0, none⟩) (k + 1) cp) (k + 1) (cs.flatten ++ [v5])) (hg : (w5.alloc o).grownBy w6 x.ownBlock) (hat : x.ownBlock = some g ∨ g = w5.heap.size + 1) :
    ∃ cs' Bi', RW 22 1 (ItK ks) w6 w1.heap.size (.slice (some ⟨g, 0, none⟩) (k + 1) cp) (k + 1) cs' Bi' ∧ Below w1.heap.size w1 w6 := by
  obtain ⟨Bv, hT, hBv, hBn⟩ := tOwn_of hv
  have hz := hb.size
  have hz5 := b5.size
  have hxlt := h.2.2.1.lt
  refine ⟨_, _, RW.add (w2 := w5.alloc o) (ItK.agree ks) h (fun b hb => (Below.heap_alloc _ _ _ (by omega)).trans (b5.block b hb)) (by simp; omega) ⟨v5, rfl, hT.agree fun b hb => Below.heap_alloc _ _ _ (hBv b hb).2⟩ (fun b hb => by have := hBv b hb; simp; omega) hBn hz hown hg (by simpa using hat), ?_⟩
  exact ((Below.on hb b5).alloc (by omega) o).grown hg (by simp; omega) (fun j hj => (hxlt j hj).1)

set_option maxHeartbeats 3200000 in
set_option maxRecDepth 100000 in
theorem spec_ValKeys_succ (d N : Nat) (c0 c1 c2 : Value) (a3 : Option Addr) (p3 : Nat) (c4 : Value) (vk vn : Int) (vs : List Int) (vK : List (List Int)) (vL : List (Vl d)) (w : World) (hv : VSeg (fun b => b < N) w (d + 1) (c0, c1, c2, .slice a3 vK.length p3, c4) (vk, vn, vs, vK, vL)) (hN : N ≤ w.heap.size) (hf : ∃ (k n : Int) (a2 : Option Addr) (l2 p2 : Nat) (a4 : Option Addr) (l4 p4 : Nat), c0 = .int .i64 k ∧ c1 = .int .i64 n ∧ c2 = .slice a2 l2 p2 ∧ c4 = .slice a4 l4 p4) :
    Calls Try.prog 18 #[.agg #[c0, c1, c2, .slice a3 vK.length p3, c4]] w (KeyEnd (d + 1) (vk, vn, vs, vK, vL) w) := by
  obtain ⟨iT, hiT, hy0, hy1, hy2⟩ := info_parts infoT
  obtain ⟨k0, n0, a2, l2, p2, a4, l4, p4, rfl, rfl, rfl, rfl⟩ := hf
  have HA : Hid (∀ o : Obj, Below w.heap.size w (w.alloc o) ∧ (w.alloc o).heap[w.heap.size]? = some o) := fun o => ⟨(Below.refl _ _).alloc (Nat.le_refl _) o, (MapKept.heap_alloc w o).1⟩
  have HP : Hid (∀ o : Obj, Calls Try.prog 26 #[.agg #[.int .i64 k0, .int .i64 n0, .slice a2 l2 p2, .slice a3 vK.length p3, .slice a4 l4 p4]] (w.alloc o) fun e w' => e = .returned (.bool (okB (d + 1) (vk, vn, vs, vK, vL))) ∧ Below (w.alloc o).heap.size (w.alloc o) w') := fun o => spec_ValOk_any (d + 1) N _ _ _ _ _ _ _ (VSeg.agree (fun b (h : b < N) => (HA.out o).1.block b (by omega)) (d + 1) hv) (by simp; omega)
  have HKS := hide' hv.2.2.2.1
  clear hv
  go_enter Try.func18, Try.ntmps18
  go_wp2_with fail
  refine (HP.out _).mono ?_
  rintro e w1 ⟨rfl, b1⟩
  have hV1 := (b1.block w.heap.size (by simp)).trans (HA.out _).2
  have B1 := Below.on (HA.out _).1 b1
  have hlt : w.heap.size < w1.heap.size := (Array.getElem?_eq_some_iff.1 hV1).1
  obtain ⟨_, _, _, q3, _, _⟩ := row5 hV1
  have HV1 := hide' hV1
  have HB1 := hide' B1
  clear hV1 b1 B1 HP
  by_cases hok : okB (d + 1) (vk, vn, vs, vK, vL) = true
  · have hkeys : Hid (keysV (d + 1) (vk, vn, vs, vK, vL) = vK) := if_pos hok
    obtain ⟨hl40, hl1⟩ := keys_bound hok
    have HL := hide' hl1
    rw [hok]
    clear hl1 hok
    go_wp2_with fail
    go_loopw [3, 4] (fun x i wr => ∃ k : Nat, k ≤ vK.length ∧ i = .int .i64 k ∧ ∃ cs Bi, RW 22 1 (ItK vK) wr w1.heap.size x k cs Bi ∧ Below w1.heap.size w1 wr) (fun _ i _ => vK.length - (intOf i).toNat)
    case atStart => exact ⟨0, Nat.zero_le _, rfl, _, _, RW.nil _ _ _ _ _, Below.refl _ _⟩
    case round =>
      obtain ⟨k, hk, rfl, cs, Bi, hR, hbel⟩ := hrel
      have hsz := hbel.size
      have hvK : ∃ p c, u3 = .slice p k c := by
        rcases hR.2.2.1.2 with ⟨rfl, h0⟩ | ⟨g, cap, cur, rfl, _⟩
        · exact ⟨none, 0, by rw [h0]⟩
        · exact ⟨_, _, rfl⟩
      obtain ⟨pK, cK, rfl⟩ := hvK
      have q3r : wr.cell? ⟨w.heap.size, 3, none⟩ = some (.slice a3 vK.length p3) := (World.cell?_of_block (hbel.block _ hlt)).trans q3
      by_cases hkn : k < vK.length
      · have hkn' : (k : Int) < (vK.length : Int) := by omega
        have hk0 : (0 : Int) ≤ (k : Int) := Int.natCast_nonneg _
        have hBw : Below w.heap.size w wr := Below.on HB1.out hbel
        have hat : ∃ b off ua uc, a3 = some ⟨b, off, none⟩ ∧ b < N ∧ w.cell? ⟨b, off + k, none⟩ = some (.slice ua (vK.getD k []).length uc) ∧ Seg w ua (vK.getD k []) ∧ (ua = none → uc = 0) ∧ ∀ x, ua = some x → vK.getD k [] ≠ [] → x.block < N := by
          obtain ⟨a, cap, e, _, _, _, h0 | ⟨b, off, rfl, hb, hc⟩⟩ := HKS.out
          · rw [h0] at hkn; simp at hkn
          · simp at e
            obtain ⟨u, hu, ua, uc, rfl, hs, _, _, hn, hR⟩ := hc k hkn
            exact ⟨b, off, ua, uc, e.1, hb, hu, hs, hn, hR⟩
        obtain ⟨b, off, ua, uc, rfl, hbN, hcu, hsu, hnu, hRu⟩ := hat
        have hlk := HL.out k hkn
        have hBa : Below w.heap.size w (wr.alloc (.cells #[] 5)) := hBw.alloc (by omega) _
        have hcu' : (wr.alloc (.cells #[] 5)).cell? ⟨b, off + k, none⟩ = some (.slice ua (vK.getD k []).length uc) := (World.cell?_of_block (hBa.block b (by omega))).trans hcu
        have q3a : (wr.alloc (.cells #[] 5)).cell? ⟨w.heap.size, 3, none⟩ = some (.slice (some ⟨b, off, none⟩) vK.length p3) := (World.cell?_of_block (Below.heap_alloc wr _ w.heap.size (by omega))).trans q3r
        have hsu' : Seg (wr.alloc (.cells #[] 5)) ua (vK.getD k []) := hsu.below hBa fun x hx hne => by have := hRu x hx hne; omega
        have hE : Bts (wr.alloc (.cells #[] 5)) wr.heap.size (.slice (some ⟨wr.heap.size, 0, none⟩) 0 0) [] := ⟨by simp, by simp [cellsOf], .inr ⟨wr.heap.size, 0, #[], rfl, Nat.le_refl _, heap_alloc_new wr _, Nat.le_refl _, Nat.zero_le _, rfl, rfl⟩⟩
        have HR := hide' (And.intro hR hbel)
        have hBe : Hid (Below wr.heap.size wr (wr.alloc (.cells #[] 5))) := (Below.refl _ _).alloc (Nat.le_refl _) _
        have Hv : Hid (∀ w5, Below wr.heap.size wr w5 → w5.ownsRow w1.heap.size 22 1 (.slice pK k cK) k cs.flatten) := fun w5 hb5 => hR.2.2.1.kept (row := none) ⟨hb5.os, hb5.tape, hb5.output, hb5.size, fun k hk _ => hb5.block k hk⟩ (by cases hv : (Value.slice pK k cK).ownBlock <;> simp)
        generalize hks : vK.getD k [] = xs at *
        have Hks := hide' hks
        generalize hnk : xs.length = nk at *
        clear hR hbel hBw hBa hcu hsu hks hRu
        go_wp2_with (at_builtin; first
          | (refine wpList_append_seg rfl (.tmp 16) (.tmp 21) (by rfl) wr.heap.size (.slice (some ⟨wr.heap.size, 0, none⟩) 0 0) [] xs (by rfl) hE ua nk uc hnk.symm (by rfl) hsu' hnu (by simp; omega) (by simp) ?_; intro v5 w5 hv5 hg5; rw [List.nil_append] at hv5; have hb5 := hide' (hBe.out.grown hg5 (by simp) (by intro j hj; simp [Value.ownBlock] at hj; omega)); obtain ⟨a5, c5, h5, _⟩ := hv5.shape; rw [hnk] at h5; subst h5; replace hv5 := hide' hv5; clear hg5 hE hsu')
          | (refine wpList_append_lies _ rfl (.tmp 15) (.tmp 23) 23 (by rfl) w1.heap.size 22 iT (.slice none 0 0) 1 24 Try.underlying23 hiT hy0 hy1 hy2 rfl (by decide) (.slice pK k cK) k cs.flatten (by rfl) ((Hv.out w5 hb5.out).alloc _) ⟨w5.heap.size, 0, none⟩ 1 1 [.slice a5 nk c5] (by rfl) (by rfl) (World.news_of_block (cs := #[.slice a5 nk c5]) (t := 22) (fr := (0, 0)) (heap_alloc_new w5 _)) (by simp [Value.oneCell']) (by omega) (by unfold maxLen; omega) (by omega) (by have := hb5.out.size; simp; omega) (w5.heap.size + 1) (by simp) ?_; intro g6 cp6 w6 hown6 hg6 hat6 hlt6; obtain ⟨cs', Bi', hR6, hB6⟩ := rwk_step HR.out.1 HR.out.2 hb5.out (by rw [Hks.out]; exact hv5.out) hown6 hg6 hat6; replace hR6 := hide' hR6; replace hB6 := hide' hB6; clear hown6 hg6 hat6 hlt6))
        go_wp2
        go_roundw
        case rel => exact ⟨k + 1, by omega, by go_num, _, _, hR6.out, hB6.out⟩
        case measure => simp [intOf]; omega
      · have hkn' : k = vK.length := by omega
        subst hkn'
        have hkl' : ¬ (vK.length : Int) < (vK.length : Int) := by omega
        have HR := hide' (And.intro hR hbel)
        clear hR hbel
        go_wp2_with fail
        go_ret
        have hbd := HR.out.1.2.2.2.2.2
        exact ⟨_, rfl, _, by rw [hkeys.out]; exact HR.out.1.kown, fun b hb => by have := hbd b hb; omega, Below.on HB1.out HR.out.2⟩
  · have hno : okB (d + 1) (vk, vn, vs, vK, vL) = false := by simpa using hok
    have hkeys : Hid (keysV (d + 1) (vk, vn, vs, vK, vL) = []) := if_neg hok
    rw [hno]
    clear hok hno
    go_wp2_with fail
    go_ret
    exact ⟨_, rfl, [], by rw [hkeys.out]; exact kNil _, by simp, HB1.out⟩
end Go.Proofs.Ytdnodgngamcgcaa
/-
  What the law of ValKeys leans on besides; no statement is proved here.
-/
namespace Go.Proofs.Ytdnodgngamcgcaa
open Go.RowKit Go.Shelf
set_option linter.unusedVariables false
set_option linter.unusedSimpArgs false

theorem spec_ValKeys_any (d N : Nat) (c0 c1 c2 c3 c4 : Value) (v : Vl d) (w : World) (hv : VSeg (fun b => b < N) w d (c0, c1, c2, c3, c4) v) (hN : N ≤ w.heap.size) :
    Calls Try.prog 18 #[.agg #[c0, c1, c2, c3, c4]] w (KeyEnd d v w) := by
  cases d with
  | zero => exact hv.elim
  | succ d =>
    obtain ⟨vk, vn, vs, vK, vL⟩ := v
    have hv' := hv
    obtain ⟨e0, e1, ⟨a2, p2, e2, _⟩, ⟨a3, p3, e3, _⟩, a4, p4, e4, _⟩ := hv
    simp only at e0 e1 e2 e3 e4
    subst e3
    exact spec_ValKeys_succ d N c0 c1 c2 a3 p3 c4 vk vn vs vK vL w hv' hN ⟨_, _, _, _, _, _, _, _, e0, e1, e2, e4⟩

theorem keys_sz (d : Nat) (v : Vl d) : szK (keysV d v) ≤ szV d v := by
  cases d with
  | zero => simp [keysV, szK]
  | succ d =>
    obtain ⟨vk, vn, vs, vK, vL⟩ := v
    have h3 : szV (d + 1) (vk, vn, vs, vK, vL) = szT vs + szK vK + (vL.length + (vL.map (szV d)).sum) := rfl
    show szK (if okB (d + 1) (vk, vn, vs, vK, vL) = true then vK else []) ≤ _
    split
    · omega
    · simp [szK]
end Go.Proofs.Ytdnodgngamcgcaa
/-
  FnExactValKeys answers true, whatever value it is handed; it makes new memory and turns nothing old.
-/
namespace Go.Proofs.Ytdnodgngamcgcaa
open Go.RowKit Go.Shelf
set_option linter.unusedVariables false
set_option linter.unusedSimpArgs false

set_option maxHeartbeats 6400000 in
set_option maxRecDepth 100000 in
theorem walk_FnExactValKeys_succ (d : Nat) (c0 c1 c2 c3 c4 : Value) (v : Vl (d + 1)) (w : World) (hv : VSeg (fun b => b < w.heap.size) w (d + 1) (c0, c1, c2, c3, c4) v) :
    Calls Try.prog 5 #[.agg #[c0, c1, c2, c3, c4]] w fun e w' => e = .returned (.bool true) ∧ Below w.heap.size w w' := by
  have b0 : ∀ o : Obj, Below w.heap.size w (w.alloc o) := fun o => (Below.refl _ _).alloc (Nat.le_refl _) o
  have HV : Hid (∀ wx, Below w.heap.size w wx → VSeg (fun b => b < w.heap.size) wx (d + 1) (c0, c1, c2, c3, c4) v) := fun wx hb => VSeg.agree (agree_below hb) (d + 1) hv
  have HS : Hid (∀ wx, Below w.heap.size w wx → Calls Try.prog 6 #[.agg #[c0, c1, c2, c3, c4], .int .i64 1048576] wx fun e w' => e = .returned (.int .i64 (less 1048576 (szV (d + 1) v))) ∧ Below wx.heap.size wx w') := fun wx hb =>
    szValue_any (d + 1) w.heap.size (c0, c1, c2, c3, c4) v 1048576 wx (HV.out wx hb) hb.size (by omega) (by omega)
  have hbox : ∀ o wx, Below (w.alloc o).heap.size (w.alloc o) wx → wx.heap[w.heap.size]? = some o := fun o wx h => box_row h
  have Hbox := hide' hbox
  have Hb := hide' b0
  have hks := keys_sz (d + 1) v
  have hcv := cV_le d v
  obtain ⟨ck, cn, a2, l2, p2, a3, l3, p3, a4, l4, p4, rfl, rfl, rfl, rfl, rfl⟩ := VSeg.form (d + 1) hv
  clear b0 hbox hv
  by_cases hz : (1048576 : Int) < szV (d + 1) v
  · have hl : less 1048576 (szV (d + 1) v) = -1 := less_no _ _ hz
    rw [hl] at HS
    clear hl
    go_enter Try.func5, Try.ntmps5
    go_wp2_with fail
    refine (HS.out _ (Hb.out _)).mono ?_
    rintro e w1 ⟨rfl, b1⟩
    have B1 := Below.on (Hb.out _) b1
    clear b1
    go_wp2
    go_ret
    exact ⟨rfl, B1⟩
  · have hl : less 1048576 (szV (d + 1) v) = 1048576 - szV (d + 1) v := less_yes _ _ hz
    rw [hl] at HS
    have hz0 : 0 ≤ (1048576 : Int) - szV (d + 1) v := by omega
    have hz1 : (1048576 : Int) - szV (d + 1) v ≤ 1048576 := by omega
    have HZ : Hid (szV (d + 1) v ≤ 1048576) := by show szV (d + 1) v ≤ 1048576; omega
    have HT : Hid (∀ wx, Below w.heap.size w wx → Calls Try.prog 8 #[.agg #[.int .i64 ck, .int .i64 cn, .slice a2 l2 p2, .slice a3 l3 p3, .slice a4 l4 p4]] wx fun e w' => ∃ c0 c1 c2 c3 c4, e = .returned (.agg #[c0, c1, c2, c3, c4]) ∧ ∃ B, VOwn w' (d + 1) (c0, c1, c2, c3, c4) v B ∧ (∀ b ∈ B, wx.heap.size ≤ b ∧ b < w'.heap.size) ∧ Below wx.heap.size wx w') := fun wx hb =>
      toValue_any (d + 1) w.heap.size (.int .i64 ck, .int .i64 cn, .slice a2 l2 p2, .slice a3 l3 p3, .slice a4 l4 p4) v wx (HV.out wx hb) hb.size HZ.out
    have HEq : Hid (∀ (N : Nat) (c c' : Value × Value × Value × Value × Value) (wx : World), VSeg (fun b => b < N) wx (d + 1) c v → VSeg (fun b => b < N) wx (d + 1) c' v → N ≤ wx.heap.size → Calls Try.prog 11 #[.agg #[c.1, c.2.1, c.2.2.1, c.2.2.2.1, c.2.2.2.2], .agg #[c'.1, c'.2.1, c'.2.2.1, c'.2.2.2.1, c'.2.2.2.2]] wx fun e w' => e = .returned (.bool true) ∧ Below wx.heap.size wx w') := fun N c c' wx h h' hN => eqValue_any (d + 1) N c c' v wx h h' hN HZ.out
    have hkz : szK (keysV (d + 1) v) ≤ 1048576 := by have := HZ.out; omega
    have hcm : cV d v ≤ 2097152 := by have := HZ.out; omega
    have hsum : ((keysV (d + 1) v).map List.length).sum ≤ 1048576 := by have h5 : szK (keysV (d + 1) v) = (keysV (d + 1) v).length + ((keysV (d + 1) v).map List.length).sum := rfl; omega
    have HM : Hid (∀ x0 x1 x2 x3 x4 B wx, VOwn wx (d + 1) (x0, x1, x2, x3, x4) v B → Calls Try.prog 13 #[.agg #[x0, x1, x2, x3, x4], .int .i64 1] wx fun e w' => e = .returned (.int .i64 ((1 + cV d v : Nat) : Int)) ∧ Turned B wx w') := fun x0 x1 x2 x3 x4 B wx h => (markValue_any d x0 x1 x2 x3 x4 v B 1 wx h HZ.out (by omega)).mono fun e w' h => ⟨h.1, h.2.2⟩
    have HSp : Hid (∀ u0 u1 u2 u3 u4 B wx, VOwn wx (d + 1) (u0, u1, u2, u3, u4) v B → Calls Try.prog 18 #[.agg #[u0, u1, u2, u3, u4]] wx (KeyEnd (d + 1) v wx)) := fun u0 u1 u2 u3 u4 B wx h => spec_ValKeys_any (d + 1) wx.heap.size u0 u1 u2 u3 u4 v wx (h.below (Below.refl _ _)) (Nat.le_refl _)
    have HIm : Hid (∀ u0 u1 u2 u3 u4 B wx wy, VOwn wx (d + 1) (u0, u1, u2, u3, u4) v B → Below wx.heap.size wx wy → Calls Try.prog 19 #[.agg #[u0, u1, u2, u3, u4]] wy (KeyEnd (d + 1) v wy)) := fun u0 u1 u2 u3 u4 B wx wy h hb => impl_ValKeys_any (d + 1) wx.heap.size u0 u1 u2 u3 u4 v wy (h.below hb) hb.size
    have HEK : Hid (∀ x y B B' wx, KOwn wx x (keysV (d + 1) v) B → KOwn wx y (keysV (d + 1) v) B' → Calls Try.prog 20 #[x, y] wx fun e w' => e = .returned (.bool true) ∧ Below wx.heap.size wx w') := fun x y B B' wx h h' => eqByteSS_same wx.heap.size x y _ wx h.read h'.read (Nat.le_refl _) hkz
    have HMK : Hid (∀ x B wx, KOwn wx x (keysV (d + 1) v) B → Calls Try.prog 21 #[x, .int .i64 1] wx fun e w' => e = .returned (.int .i64 ((1 + ((keysV (d + 1) v).map List.length).sum : Nat) : Int)) ∧ KOwn w' x (mkKs (keysV (d + 1) v) 1) B ∧ Turned B wx w') := fun x B wx h => markByteSS_any x _ B 1 wx h (by omega) (by omega)
    have HHK : Hid (∀ x B wx, KOwn wx x (mkKs (keysV (d + 1) v) 1) B → Calls Try.prog 22 #[x, .int .i64 1] wx fun e w' => e = .returned (.int .i64 ((1 + ((keysV (d + 1) v).map List.length).sum : Nat) : Int)) ∧ Below wx.heap.size wx w') := fun x B wx h => heldByteSS_any wx.heap.size x _ 1 wx h.read (Nat.le_refl _) (by omega) (by omega)
    generalize hsz' : szV (d + 1) v = sz at *
    generalize hcn : cV d v = cn1 at *
    generalize hsm : ((keysV (d + 1) v).map List.length).sum = sm at *
    clear hl hz HV hks hcv hkz hsz' hcn hsm
    go_enter Try.func5, Try.ntmps5
    go_wp2_with fail
    refine (HS.out _ (Hb.out _)).mono ?_
    rintro e w1 ⟨rfl, b1⟩
    have B1 := Below.on (Hb.out _) b1
    obtain ⟨y0, y1, y2, y3, y4, _⟩ := row5 (Hbox.out _ _ b1)
    have HT1 := hide' (HT.out w1 B1)
    have Hb1 := hide' b1
    clear b1 B1 HS
    go_wp2_with fail
    refine HT1.out.mono ?_
    rintro e w2 ⟨u0, u1, u2, u3, u4, rfl, B, hO2, hB2, b2⟩
    have hS2 := hide' (HSp.out _ _ _ _ _ _ _ hO2)
    have b12 := hide' (Below.on Hb1.out b2)
    clear HT1 Hb1 hO2 hB2 b2 y0 y1 y2 y3 y4
    go_wp2_with fail
    refine hS2.out.mono ?_
    rintro e w3 ⟨W0, rfl, Bw, hW3, hBw, b3⟩
    have hWs : ∃ a n c, W0 = .slice a n c := by rcases hW3 with ⟨rfl, _⟩ | ⟨g, cap, cur, Bs, rfl, _⟩ <;> exact ⟨_, _, _, rfl⟩
    obtain ⟨Wa, Wn, Wc, rfl⟩ := hWs
    have b13 := Below.on b12.out b3
    obtain ⟨y0, y1, y2, y3, y4, _⟩ := row5 (Hbox.out _ _ b13)
    have HT3 := hide' (HT.out w3 (Below.on (Hb.out _) b13))
    have HZ3 : Hid ((w.alloc (.cells #[.int .i64 ck, .int .i64 cn, .slice a2 l2 p2, .slice a3 l3 p3, .slice a4 l4 p4] 26)).heap.size ≤ w3.heap.size) := b13.size
    have HW3 := hide' hW3
    have HBw := hide' hBw
    have Hb13 := hide' b13
    clear b12 b3 b13 hS2 hW3 hBw
    go_wp2_with fail
    refine HT3.out.mono ?_
    rintro e w4 ⟨x0, x1, x2, x3, x4, rfl, B4, hO4, hB4, b4⟩
    obtain ⟨xk, xn, s2, m2, q2, s3, m3, q3, s4, m4, q4, rfl, rfl, rfl, rfl, rfl⟩ := VOwn.form (d + 1) hO4
    have bal : Below w4.heap.size w4 (w4.alloc (.cells #[.int .i64 xk, .int .i64 xn, .slice s2 m2 q2, .slice s3 m3 q3, .slice s4 m4 q4] 30)) := (Below.refl _ _).alloc (Nat.le_refl _) _
    have hI4 := hide' (HIm.out _ _ _ _ _ _ _ _ hO4 bal)
    have HO4 := hide' (hO4.on bal)
    have HB4 := hide' hB4
    have Hb14 := hide' (Below.on (Below.on Hb13.out b4) bal)
    have HW4 := hide' ((HW3.out.on b4).on bal)
    have hz4 : w3.heap.size ≤ w4.heap.size := b4.size
    clear hO4 hB4 b4 bal HT3 Hb13 HW3 y0 y1 y2 y3 y4
    go_wp2_with fail
    refine hI4.out.mono ?_
    rintro e w5 ⟨G0, rfl, Bg, hG5, hBg, b5⟩
    have hGs : ∃ a n c, G0 = .slice a n c := by rcases hG5 with ⟨rfl, _⟩ | ⟨g, cap, cur, Bs, rfl, _⟩ <;> exact ⟨_, _, _, rfl⟩
    obtain ⟨Ga, Gn, Gc, rfl⟩ := hGs
    have hx5 : w5.heap[w4.heap.size]? = some (.cells #[.int .i64 xk, .int .i64 xn, .slice s2 m2 q2, .slice s3 m3 q3, .slice s4 m4 q4] 30) := box_row b5
    have hW5 := HW4.out.on b5
    have HO5 := hide' (HO4.out.on b5)
    have Hb15 := hide' (Below.on Hb14.out b5)
    have hEK := hide' (HEK.out _ _ _ _ _ hG5 hW5)
    have hG5' := hide' hG5
    have hW5' := hide' hW5
    have Hx5 := hide' hx5
    have HBg : Hid (∀ b ∈ Bg, w4.heap.size + 1 ≤ b ∧ b < w5.heap.size) := fun b hb => by have := hBg b hb; simp at this; exact this
    clear hG5 hW5 hx5 hBg b5 hI4 HO4 Hb14 HW4
    go_wp2_with fail
    refine hEK.out.mono ?_
    rintro e w6 ⟨rfl, b6⟩
    have B16 := Below.on Hb15.out b6
    have hx6 := (b6.block w4.heap.size ((Array.getElem?_eq_some_iff.1 Hx5.out).1)).trans Hx5.out
    have hz6 : w4.heap.size < w6.heap.size := (Array.getElem?_eq_some_iff.1 hx6).1
    obtain ⟨y0, y1, y2, y3, y4, _⟩ := row5 (Hbox.out _ _ B16)
    obtain ⟨v0, v1, v2, v3, v4, _⟩ := row5 hx6
    have hO6 := HO5.out.on b6
    have HCel : Hid (∀ wy, Below w6.heap.size w6 wy → (wy.cell? ⟨w.heap.size, 0, none⟩ = some (.int .i64 ck) ∧ wy.cell? ⟨w.heap.size, 1, none⟩ = some (.int .i64 cn) ∧ wy.cell? ⟨w.heap.size, 2, none⟩ = some (.slice a2 l2 p2) ∧ wy.cell? ⟨w.heap.size, 3, none⟩ = some (.slice a3 l3 p3) ∧ wy.cell? ⟨w.heap.size, 4, none⟩ = some (.slice a4 l4 p4) ∧ wy.cell? ⟨w4.heap.size, 0, none⟩ = some (.int .i64 xk) ∧ wy.cell? ⟨w4.heap.size, 1, none⟩ = some (.int .i64 xn) ∧ wy.cell? ⟨w4.heap.size, 2, none⟩ = some (.slice s2 m2 q2) ∧ wy.cell? ⟨w4.heap.size, 3, none⟩ = some (.slice s3 m3 q3) ∧ wy.cell? ⟨w4.heap.size, 4, none⟩ = some (.slice s4 m4 q4))) := by
      intro wy hy
      obtain ⟨f0, f1, f2, f3, f4, _⟩ := row5 (Hbox.out _ _ (Below.on B16 hy))
      obtain ⟨g0, g1, g2, g3, g4, _⟩ := row5 ((hy.block w4.heap.size hz6).trans hx6)
      exact ⟨f0, f1, f2, f3, f4, g0, g1, g2, g3, g4⟩
    have HTd : Hid (Calls Try.prog 8 #[.agg #[.int .i64 ck, .int .i64 cn, .slice a2 l2 p2, .slice a3 l3 p3, .slice a4 l4 p4]] w6.drew fun e w7 => ∃ z0 z1 z2 z3 z4, e = .returned (.agg #[z0, z1, z2, z3, z4]) ∧
        (w7.cell? ⟨w.heap.size, 0, none⟩ = some (.int .i64 ck) ∧ w7.cell? ⟨w.heap.size, 1, none⟩ = some (.int .i64 cn) ∧ w7.cell? ⟨w.heap.size, 2, none⟩ = some (.slice a2 l2 p2) ∧ w7.cell? ⟨w.heap.size, 3, none⟩ = some (.slice a3 l3 p3) ∧ w7.cell? ⟨w.heap.size, 4, none⟩ = some (.slice a4 l4 p4) ∧ w7.cell? ⟨w4.heap.size, 0, none⟩ = some (.int .i64 xk) ∧ w7.cell? ⟨w4.heap.size, 1, none⟩ = some (.int .i64 xn) ∧ w7.cell? ⟨w4.heap.size, 2, none⟩ = some (.slice s2 m2 q2) ∧ w7.cell? ⟨w4.heap.size, 3, none⟩ = some (.slice s3 m3 q3) ∧ w7.cell? ⟨w4.heap.size, 4, none⟩ = some (.slice s4 m4 q4)) ∧
        Hid (Calls Try.prog 11 #[.agg #[.int .i64 xk, .int .i64 xn, .slice s2 m2 q2, .slice s3 m3 q3, .slice s4 m4 q4], .agg #[z0, z1, z2, z3, z4]] w7 fun e w8 => e = .returned (.bool true) ∧ (w8.cell? ⟨w.heap.size, 0, none⟩ = some (.int .i64 ck) ∧ w8.cell? ⟨w.heap.size, 1, none⟩ = some (.int .i64 cn) ∧ w8.cell? ⟨w.heap.size, 2, none⟩ = some (.slice a2 l2 p2) ∧ w8.cell? ⟨w.heap.size, 3, none⟩ = some (.slice a3 l3 p3) ∧ w8.cell? ⟨w.heap.size, 4, none⟩ = some (.slice a4 l4 p4) ∧ w8.cell? ⟨w4.heap.size, 0, none⟩ = some (.int .i64 xk) ∧ w8.cell? ⟨w4.heap.size, 1, none⟩ = some (.int .i64 xn) ∧ w8.cell? ⟨w4.heap.size, 2, none⟩ = some (.slice s2 m2 q2) ∧ w8.cell? ⟨w4.heap.size, 3, none⟩ = some (.slice s3 m3 q3) ∧ w8.cell? ⟨w4.heap.size, 4, none⟩ = some (.slice s4 m4 q4)) ∧ Hid (Below w6.heap.size w6 w8))) := by
      refine (HT.out w6.drew (Below.on (Hb.out _) B16).drew).mono ?_
      rintro e w7 ⟨z0, z1, z2, z3, z4, rfl, B7, hO7, hB7, b7⟩
      have b67 : Below w6.heap.size w6 w7 := Below.on (Below.refl _ w6).drew b7
      refine ⟨z0, z1, z2, z3, z4, rfl, HCel.out _ b67, ?_⟩
      exact (HEq.out w7.heap.size (.int .i64 xk, .int .i64 xn, .slice s2 m2 q2, .slice s3 m3 q3, .slice s4 m4 q4) (z0, z1, z2, z3, z4) w7 (VSeg.mono (fun b hb => Nat.lt_of_lt_of_le hb b67.size) (d + 1) (hO6.below b67)) (hO7.below (Below.refl _ _)) (Nat.le_refl _)).mono fun e w8 h => ⟨h.1, HCel.out _ (Below.on b67 h.2), Below.on b67 h.2⟩
    have HB16 := hide' B16
    have HO6 := hide' hO6
    have HG6 := hide' (hG5'.out.on b6)
    have HW6 := hide' (hW5'.out.on b6)
    have hz56 : w5.heap.size ≤ w6.heap.size := b6.size
    clear hEK hx6 hO6 b6 B16 HO5 Hb15 hG5' hW5' Hx5
    go_wp2_with fail
    go_region_held3 (fun wx => wx.cell? ⟨w.heap.size, 0, none⟩ = some (.int .i64 ck) ∧ wx.cell? ⟨w.heap.size, 1, none⟩ = some (.int .i64 cn) ∧ wx.cell? ⟨w.heap.size, 2, none⟩ = some (.slice a2 l2 p2) ∧ wx.cell? ⟨w.heap.size, 3, none⟩ = some (.slice a3 l3 p3) ∧ wx.cell? ⟨w.heap.size, 4, none⟩ = some (.slice a4 l4 p4) ∧ wx.cell? ⟨w4.heap.size, 0, none⟩ = some (.int .i64 xk) ∧ wx.cell? ⟨w4.heap.size, 1, none⟩ = some (.int .i64 xn) ∧ wx.cell? ⟨w4.heap.size, 2, none⟩ = some (.slice s2 m2 q2) ∧ wx.cell? ⟨w4.heap.size, 3, none⟩ = some (.slice s3 m3 q3) ∧ wx.cell? ⟨w4.heap.size, 4, none⟩ = some (.slice s4 m4 q4)) (go_keep) (first
      | (go_at_call 8; refine HTd.out.mono ?_; rintro e w7 ⟨z0, z1, z2, z3, z4, rfl, ⟨i0, i1, i2, i3, i4, i5, i6, i7, i8, i9⟩, hE7⟩)
      | (go_at_call 11; refine hE7.out.mono ?_; rintro e w8 ⟨rfl, ⟨j0, j1, j2, j3, j4, j5, j6, j7, j8, j9⟩, hb8⟩))
    clear y0 y1 y2 y3 y4 v0 v1 v2 v3 v4 i0 i1 i2 i3 i4 i5 i6 i7 i8 i9 hE7 HTd HCel HEq
    have hM8 := hide' (HM.out _ _ _ _ _ _ _ (HO6.out.on hb8.out))
    have HG8 := hide' (HG6.out.on hb8.out)
    have HW8 := hide' (HW6.out.on hb8.out)
    have HB18 := hide' (Below.on HB16.out hb8.out)
    clear HO6 HG6 HW6 HB16
    go_wp2_with fail
    refine hM8.out.mono ?_
    rintro e w9 ⟨rfl, hT9⟩
    have hG9 := HG8.out.far hT9 (fun b hb hb' => by have h1 := HBg.out b hb; have h2 := HB4.out b hb'; omega)
    have hW9 := HW8.out.far hT9 (fun b hb hb' => by have h1 := HBw.out b hb; have h2 := HB4.out b hb'; omega)
    have HB19 := hide' (Turned.below HB18.out hT9 (Nat.le_refl _) (fun b hb => by have h2 := HB4.out b hb; have h3 := HZ3.out; omega))
    have hE9 := hide' (HEK.out _ _ _ _ _ hG9 hW9)
    have HG9 := hide' hG9
    have HW9 := hide' hW9
    clear hT9 hG9 hW9 HG8 HW8 HB18 hM8 j0 j1 j2 j3 j4 j5 j6 j7 j8 j9
    go_wp2_with fail
    refine hE9.out.mono ?_
    rintro e w10 ⟨rfl, b10⟩
    have hM10 := hide' (HMK.out _ _ _ (HG9.out.on b10))
    have HW10 := hide' (HW9.out.on b10)
    have HB110 := hide' (Below.on HB19.out b10)
    clear b10 hE9 HG9 HW9 HB19
    go_wp2_with fail
    refine hM10.out.mono ?_
    rintro e w11 ⟨rfl, hG11, hT11⟩
    have HW11 := hide' (HW10.out.far hT11 (fun b hb hb' => by have h1 := HBw.out b hb; have h2 := HBg.out b hb'; omega))
    have HB111 := hide' (Turned.below HB110.out hT11 (Nat.le_refl _) (fun b hb => by have h2 := HBg.out b hb; have h3 := HZ3.out; omega))
    have hH11 := hide' (HHK.out _ _ _ hG11)
    have HG11 := hide' hG11
    clear hG11 hT11 hM10 HW10 HB110
    go_wp2_with fail
    refine hH11.out.mono ?_
    rintro e w12 ⟨rfl, b12⟩
    have B112 := Below.on HB111.out b12
    obtain ⟨y0, y1, y2, y3, y4, _⟩ := row5 (Hbox.out _ _ B112)
    have HT12 := hide' (HT.out w12 (Below.on (Hb.out _) B112))
    have HG12 := hide' (HG11.out.on b12)
    have HW12 := hide' (HW11.out.on b12)
    have HB112 := hide' B112
    clear b12 B112 hH11 HG11 HW11 HB111
    go_wp2_with fail
    refine HT12.out.mono ?_
    rintro e w13 ⟨z0, z1, z2, z3, z4, rfl, B13, hO13, hB13, b13⟩
    have hI13 := hide' (HIm.out _ _ _ _ _ _ _ _ hO13 (Below.refl _ _))
    have HG13 := hide' (HG12.out.on b13)
    have HW13 := hide' (HW12.out.on b13)
    have HB113 := hide' (Below.on HB112.out b13)
    clear hO13 hB13 b13 HT12 HG12 HW12 HB112 y0 y1 y2 y3 y4
    go_wp2_with fail
    refine hI13.out.mono ?_
    rintro e w14 ⟨H0, rfl, Bh, hH14, hBh, b14⟩
    have hHs : ∃ a n c, H0 = .slice a n c := by rcases hH14 with ⟨rfl, _⟩ | ⟨g, cap, cur, Bs, rfl, _⟩ <;> exact ⟨_, _, _, rfl⟩
    obtain ⟨Ha, Hn, Hc, rfl⟩ := hHs
    have hE14 := hide' (HEK.out _ _ _ _ _ hH14 (HW13.out.on b14))
    have HG14 := hide' (HG13.out.on b14)
    have HB114 := hide' (Below.on HB113.out b14)
    clear hH14 hBh b14 hI13 HG13 HW13 HB113
    go_wp2_with fail
    refine hE14.out.mono ?_
    rintro e w15 ⟨rfl, b15⟩
    have hH15 := hide' (HHK.out _ _ _ (HG14.out.on b15))
    have HB115 := hide' (Below.on HB114.out b15)
    clear b15 hE14 HG14 HB114
    go_wp2_with fail
    refine hH15.out.mono ?_
    rintro e w16 ⟨rfl, b16⟩
    have B116 := hide' (Below.on (Hb.out _) (Below.on HB115.out b16))
    clear b16 hH15 HB115
    go_wp2
    go_ret
    exact ⟨rfl, B116.out⟩

theorem walk_FnExactValKeys (d : Nat) (c0 c1 c2 c3 c4 : Value) (v : Vl d) (w : World) (hv : VSeg (fun b => b < w.heap.size) w d (c0, c1, c2, c3, c4) v) :
    Calls Try.prog 5 #[.agg #[c0, c1, c2, c3, c4]] w fun e w' => e = .returned (.bool true) ∧ Below w.heap.size w w' := by
  cases d with
  | zero => exact hv.elim
  | succ d => exact walk_FnExactValKeys_succ d c0 c1 c2 c3 c4 v w hv
end Go.Proofs.Ytdnodgngamcgcaa
