/-
  ValKeys of the specification: the keys of a map, of the call's own.
-/
import Derived.Test.YtnipdcmohfiinaaKeyI
namespace Go.Proofs.Ytnipdcmohfiinaa
open Go.RowKit Go.Shelf
set_option linter.unusedVariables false
set_option linter.unusedSimpArgs false

theorem keys_bound {d : Nat} {vk vn : Int} {vs : List Int} {vK : List (List Int)} {vL : List (Vl d)} (hok : okB (d + 1) (vk, vn, vs, vK, vL) = true) : vK.length ≤ 40 ∧ ∀ i, i < vK.length → (vK.getD i []).length ≤ 1000 := by
  simp only [okB, Bool.and_eq_true, decide_eq_true_eq] at hok
  obtain ⟨_, hsh, hgk⟩ := (good_succ _ _ _ _ _ _ _).1 hok.1
  rcases (shape_zero hsh).2.2.1 with h5 | h5
  · subst h5
    obtain ⟨hkl, hasc⟩ := shape_mapB hsh
    have hlen : vL.length ≤ 40 := by
      cases d with
      | zero =>
        cases vL with
        | nil => simp
        | cons x r => have := hgk 0 (by simp); exact absurd this (by simp [goodB])
      | succ d => exact parts_many hok.2
    refine ⟨by omega, fun i hi => (step_name ?_).2⟩
    rw [ascB, List.all_eq_true] at hasc
    exact hasc i (List.mem_range.2 hi)
  · subst h5
    exact ⟨by simp, by simp⟩

theorem tOwn_of {w : World} {base : Nat} {v : Value} {xs : List Int} (h : Bts w base v xs) : ∃ B, TOwn w v xs B ∧ (∀ b ∈ B, base ≤ b ∧ b < w.heap.size) ∧ B.Nodup := by
  have hlt := h.2.lt
  rcases h.2.2 with ⟨rfl, h0⟩ | ⟨g, cap, cur, rfl, _⟩
  · exact ⟨[], ⟨h.free, .inl ⟨rfl, rfl⟩⟩, by simp, by simp⟩
  · exact ⟨[g], ⟨h.free, .inr ⟨g, cap, rfl, rfl⟩⟩, by intro b hb; simp at hb; subst hb; exact hlt b rfl, by simp⟩

theorem rwk_step {w1 wr w5 w6 : World} {ks : List (List Int)} {x v5 : Value} {k g cp : Nat} {cs : List (List Value)} {Bi : List (List Nat)} {o : Obj} (h : RW 22 1 (ItK ks) wr w1.heap.size x k cs Bi) (hb : Below w1.heap.size w1 wr) (b5 : Below wr.heap.size wr w5) (hv : Bts w5 wr.heap.size v5 (ks.getD k []))
    (hown : w6.ownsRow w1.heap.size 22 1 (.slice (some ⟨g, 0, none⟩) (k + 1) cp) (k + 1) (cs.flatten ++ [v5])) (hg : (w5.alloc o).grownBy w6 x.ownBlock) (hat : x.ownBlock = some g ∨ g = w5.heap.size + 1) :
    ∃ cs' Bi', RW 22 1 (ItK ks) w6 w1.heap.size (.slice (some ⟨g, 0, none⟩) (k + 1) cp) (k + 1) cs' Bi' ∧ Below w1.heap.size w1 w6 := by
  obtain ⟨Bv, hT, hBv, hBn⟩ := tOwn_of hv
  have hz := hb.size
  have hz5 := b5.size
  have hxlt := h.2.2.1.lt
  refine ⟨_, _, RW.add (w2 := w5.alloc o) (ItK.agree ks) h (fun b hb => (Below.heap_alloc _ _ _ (by omega)).trans (b5.block b hb)) (by simp; omega) ⟨v5, rfl, hT.agree fun b hb => Below.heap_alloc _ _ _ (hBv b hb).2⟩ (fun b hb => by have := hBv b hb; simp; omega) hBn hz hown hg (by simpa using hat), ?_⟩
  exact ((Below.on hb b5).alloc (by omega) o).grown hg (by simp; omega) (fun j hj => (hxlt j hj).1)

set_option maxHeartbeats 3200000 in
set_option maxRecDepth 100000 in
theorem spec_ValKeys_succ (d N : Nat) (c0 c1 c2 : Value) (a3 : Option Addr) (p3 : Nat) (c4 : Value) (vk vn : Int) (vs : List Int) (vK : List (List Int)) (vL : List (Vl d)) (w : World) (hv : VSeg (fun b => b < N) w (d + 1) (c0, c1, c2, .slice a3 vK.length p3, c4) (vk, vn, vs, vK, vL)) (hN : N ≤ w.heap.size) (hf : ∃ (k n : Int) (a2 : Option Addr) (l2 p2 : Nat) (a4 : Option Addr) (l4 p4 : Nat), c0 = .int .i64 k ∧ c1 = .int .i64 n ∧ c2 = .slice a2 l2 p2 ∧ c4 = .slice a4 l4 p4) :
    Calls Try.prog 7 #[.agg #[c0, c1, c2, .slice a3 vK.length p3, c4]] w (KeyEnd (d + 1) (vk, vn, vs, vK, vL) w) := by
  obtain ⟨iT, hiT, hy0, hy1, hy2⟩ := info_parts infoT
  obtain ⟨k0, n0, a2, l2, p2, a4, l4, p4, rfl, rfl, rfl, rfl⟩ := hf
  have HA : Hid (∀ o : Obj, Below w.heap.size w (w.alloc o) ∧ (w.alloc o).heap[w.heap.size]? = some o) := fun o => ⟨(Below.refl _ _).alloc (Nat.le_refl _) o, (MapKept.heap_alloc w o).1⟩
  have HP : Hid (∀ o : Obj, Calls Try.prog 26 #[.agg #[.int .i64 k0, .int .i64 n0, .slice a2 l2 p2, .slice a3 vK.length p3, .slice a4 l4 p4]] (w.alloc o) fun e w' => e = .returned (.bool (okB (d + 1) (vk, vn, vs, vK, vL))) ∧ Below (w.alloc o).heap.size (w.alloc o) w') := fun o => spec_ValOk_any (d + 1) N _ _ _ _ _ _ _ (VSeg.agree (fun b (h : b < N) => (HA.out o).1.block b (by omega)) (d + 1) hv) (by simp; omega)
  have HKS := hide' hv.2.2.2.1
  clear hv
  go_enter Try.func7, Try.ntmps7
  go_wp2_with fail
  refine (HP.out _).mono ?_
  rintro e w1 ⟨rfl, b1⟩
  have hV1 := (b1.block w.heap.size (by simp)).trans (HA.out _).2
  have B1 := Below.on (HA.out _).1 b1
  have hlt : w.heap.size < w1.heap.size := (Array.getElem?_eq_some_iff.1 hV1).1
  obtain ⟨_, _, _, q3, _, _⟩ := row5 hV1
  have HV1 := hide' hV1
  have HB1 := hide' B1
  clear hV1 b1 B1 HP
  by_cases hok : okB (d + 1) (vk, vn, vs, vK, vL) = true
  · have hkeys : Hid (keysV (d + 1) (vk, vn, vs, vK, vL) = vK) := if_pos hok
    obtain ⟨hl40, hl1⟩ := keys_bound hok
    have HL := hide' hl1
    rw [hok]
    clear hl1 hok
    go_wp2_with fail
    go_loopw [3, 4] (fun x i wr => ∃ k : Nat, k ≤ vK.length ∧ i = .int .i64 k ∧ ∃ cs Bi, RW 22 1 (ItK vK) wr w1.heap.size x k cs Bi ∧ Below w1.heap.size w1 wr) (fun _ i _ => vK.length - (intOf i).toNat)
    case atStart => exact ⟨0, Nat.zero_le _, rfl, _, _, RW.nil _ _ _ _ _, Below.refl _ _⟩
    case round =>
      obtain ⟨k, hk, rfl, cs, Bi, hR, hbel⟩ := hrel
      have hsz := hbel.size
      have hvK : ∃ p c, u3 = .slice p k c := by
        rcases hR.2.2.1.2 with ⟨rfl, h0⟩ | ⟨g, cap, cur, rfl, _⟩
        · exact ⟨none, 0, by rw [h0]⟩
        · exact ⟨_, _, rfl⟩
      obtain ⟨pK, cK, rfl⟩ := hvK
      have q3r : wr.cell? ⟨w.heap.size, 3, none⟩ = some (.slice a3 vK.length p3) := (World.cell?_of_block (hbel.block _ hlt)).trans q3
      by_cases hkn : k < vK.length
      · have hkn' : (k : Int) < (vK.length : Int) := by omega
        have hk0 : (0 : Int) ≤ (k : Int) := Int.natCast_nonneg _
        have hBw : Below w.heap.size w wr := Below.on HB1.out hbel
        have hat : ∃ b off ua uc, a3 = some ⟨b, off, none⟩ ∧ b < N ∧ w.cell? ⟨b, off + k, none⟩ = some (.slice ua (vK.getD k []).length uc) ∧ Seg w ua (vK.getD k []) ∧ (ua = none → uc = 0) ∧ ∀ x, ua = some x → vK.getD k [] ≠ [] → x.block < N := by
          obtain ⟨a, cap, e, _, _, _, h0 | ⟨b, off, rfl, hb, hc⟩⟩ := HKS.out
          · rw [h0] at hkn; simp at hkn
          · simp at e
            obtain ⟨u, hu, ua, uc, rfl, hs, _, _, hn, hR⟩ := hc k hkn
            exact ⟨b, off, ua, uc, e.1, hb, hu, hs, hn, hR⟩
        obtain ⟨b, off, ua, uc, rfl, hbN, hcu, hsu, hnu, hRu⟩ := hat
        have hlk := HL.out k hkn
        have hBa : Below w.heap.size w (wr.alloc (.cells #[] 5)) := hBw.alloc (by omega) _
        have hcu' : (wr.alloc (.cells #[] 5)).cell? ⟨b, off + k, none⟩ = some (.slice ua (vK.getD k []).length uc) := (World.cell?_of_block (hBa.block b (by omega))).trans hcu
        have q3a : (wr.alloc (.cells #[] 5)).cell? ⟨w.heap.size, 3, none⟩ = some (.slice (some ⟨b, off, none⟩) vK.length p3) := (World.cell?_of_block (Below.heap_alloc wr _ w.heap.size (by omega))).trans q3r
        have hsu' : Seg (wr.alloc (.cells #[] 5)) ua (vK.getD k []) := hsu.below hBa fun x hx hne => by have := hRu x hx hne; omega
        have hE : Bts (wr.alloc (.cells #[] 5)) wr.heap.size (.slice (some ⟨wr.heap.size, 0, none⟩) 0 0) [] := ⟨by simp, by simp [cellsOf], .inr ⟨wr.heap.size, 0, #[], rfl, Nat.le_refl _, heap_alloc_new wr _, Nat.le_refl _, Nat.zero_le _, rfl, rfl⟩⟩
        have HR := hide' (And.intro hR hbel)
        have hBe : Hid (Below wr.heap.size wr (wr.alloc (.cells #[] 5))) := (Below.refl _ _).alloc (Nat.le_refl _) _
        have Hv : Hid (∀ w5, Below wr.heap.size wr w5 → w5.ownsRow w1.heap.size 22 1 (.slice pK k cK) k cs.flatten) := fun w5 hb5 => hR.2.2.1.kept (row := none) ⟨hb5.os, hb5.tape, hb5.output, hb5.size, fun k hk _ => hb5.block k hk⟩ (by cases hv : (Value.slice pK k cK).ownBlock <;> simp)
        generalize hks : vK.getD k [] = xs at *
        have Hks := hide' hks
        generalize hnk : xs.length = nk at *
        clear hR hbel hBw hBa hcu hsu hks hRu
        go_wp2_with (at_builtin; first
          | (refine wpList_append_seg rfl (.tmp 16) (.tmp 21) (by rfl) wr.heap.size (.slice (some ⟨wr.heap.size, 0, none⟩) 0 0) [] xs (by rfl) hE ua nk uc hnk.symm (by rfl) hsu' hnu (by simp; omega) (by simp) ?_; intro v5 w5 hv5 hg5; rw [List.nil_append] at hv5; have hb5 := hide' (hBe.out.grown hg5 (by simp) (by intro j hj; simp [Value.ownBlock] at hj; omega)); obtain ⟨a5, c5, h5, _⟩ := hv5.shape; rw [hnk] at h5; subst h5; replace hv5 := hide' hv5; clear hg5 hE hsu')
          | (refine wpList_append_lies _ rfl (.tmp 15) (.tmp 23) 23 (by rfl) w1.heap.size 22 iT (.slice none 0 0) 1 24 Try.underlying23 hiT hy0 hy1 hy2 rfl (by decide) (.slice pK k cK) k cs.flatten (by rfl) ((Hv.out w5 hb5.out).alloc _) ⟨w5.heap.size, 0, none⟩ 1 1 [.slice a5 nk c5] (by rfl) (by rfl) (World.news_of_block (cs := #[.slice a5 nk c5]) (t := 22) (fr := (0, 0)) (heap_alloc_new w5 _)) (by simp [Value.oneCell']) (by omega) (by unfold maxLen; omega) (by omega) (by have := hb5.out.size; simp; omega) (w5.heap.size + 1) (by simp) ?_; intro g6 cp6 w6 hown6 hg6 hat6 hlt6; obtain ⟨cs', Bi', hR6, hB6⟩ := rwk_step HR.out.1 HR.out.2 hb5.out (by rw [Hks.out]; exact hv5.out) hown6 hg6 hat6; replace hR6 := hide' hR6; replace hB6 := hide' hB6; clear hown6 hg6 hat6 hlt6))
        go_wp2
        go_roundw
        case rel => exact ⟨k + 1, by omega, by go_num, _, _, hR6.out, hB6.out⟩
        case measure => simp [intOf]; omega
      · have hkn' : k = vK.length := by omega
        subst hkn'
        have hkl' : ¬ (vK.length : Int) < (vK.length : Int) := by omega
        have HR := hide' (And.intro hR hbel)
        clear hR hbel
        go_wp2_with fail
        go_ret
        have hbd := HR.out.1.2.2.2.2.2
        exact ⟨_, rfl, _, by rw [hkeys.out]; exact HR.out.1.kown, fun b hb => by have := hbd b hb; omega, Below.on HB1.out HR.out.2⟩
  · have hno : okB (d + 1) (vk, vn, vs, vK, vL) = false := by simpa using hok
    have hkeys : Hid (keysV (d + 1) (vk, vn, vs, vK, vL) = []) := if_neg hok
    rw [hno]
    clear hok hno
    go_wp2_with fail
    go_ret
    exact ⟨_, rfl, [], by rw [hkeys.out]; exact kNil _, by simp, HB1.out⟩
end Go.Proofs.Ytnipdcmohfiinaa
