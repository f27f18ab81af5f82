/-
  Texts that a law leans on, one behind the other; no statement is proved here.
-/
import Derived.Test.YtngjhimieacjhaaGreatDoorPk25
import Derived.Lib.SlicesS
/-
  addrs of the program, as Needs calls it.
-/
namespace Go.Proofs.YtngjhimieacjhaaGreatDoor
open Go.RowKit
set_option linter.unusedVariables false
set_option linter.unusedSimpArgs false

set_option maxHeartbeats 3200000 in
set_option maxRecDepth 100000 in
theorem addrsN_any (d : Nat) (s : Stt d) (lo wB mB : Nat) (ps : List Value) (p : Ntr d → Bool) (c1 : Value) (w : World) (hW : Wld d s lo wB mB ps w) (hst : staB d s = true) (hby : ∀ i (h : i < s.2.2.2.2.length), ∀ x ∈ (s.2.2.2.2[i]).1, Byt x)
    (HC : ∀ i (h : i < s.2.2.2.2.length) wx, Below w.heap.size w wx → Calls Tryz.prog 28 #[ps.getD i .nilIface, c1] wx fun e w' => e = .returned (.bool (p s.2.2.2.2[i])) ∧ Below wx.heap.size wx w') :
    Calls Tryz.prog 27 #[.pointer (some ⟨wB, 0, none⟩), .func (.func 28) #[] #[c1]] w (KEnd (fltA s.2.2.2.2 p) w) := by
  obtain ⟨iT, hiT, hy0, hy1, hy2⟩ := info_parts infoT
  have HSo := hide' (sorted_any hW hst)
  have HWx : Hid (∀ wx, Below w.heap.size w wx → Wld d s lo wB mB ps wx) := fun wx hb => wld_on hW hb
  have hlook := wld_look hst hby (w := w) (fun wx hb => wld_on hW hb)
  have HLk := hide' hlook
  have HC0 := hide' HC
  have hl16 := staB_len hst
  have HSh : Hid (∀ k (hk : k < s.2.2.2.2.length), (s.2.2.2.2[k]).1.length ≤ 60 ∧ ∀ x ∈ (s.2.2.2.2[k]).1, Byt x) := fun k hk => ⟨staB_short hst hk, hby k hk⟩
  have HCe : Hid (∀ wx, Below w.heap.size w wx → wx.cell? ⟨wB, 4, none⟩ = some (.map (some mB))) := fun wx hb => by
    obtain ⟨g1, _⟩ := wld_on hW hb
    rw [cell_of_row wx wB 4 _ _ _ g1]; rfl
  obtain ⟨s0, s1, nm, s3, l⟩ := s
  simp only at HSo HLk HC0 hl16 HSh ⊢
  have HFy : Hid (∀ k (hk : k < l.length), p l[k] = true → cntF l p (k + 1) = cntF l p k + 1 ∧ (fltA l p).getD (cntF l p k) [] = (l[k]).1 ∧ cntF l p k < (fltA l p).length) := fun k hk h => ⟨cntF_yes hk h, fltA_at hk h, cntF_lt hk h⟩
  have HFn : Hid (∀ k (hk : k < l.length), p l[k] = false → cntF l p (k + 1) = cntF l p k) := fun k hk h => cntF_no hk h
  have HFe : Hid (cntF l p l.length = (fltA l p).length) := cntF_end
  have hfl : (fltA l p).length ≤ 16 := Nat.le_trans fltA_len hl16
  have hc0 : cntF l p 0 = 0 := cntF_zero
  have HEnd : Hid (∀ u e B w', e = .returned u → KOwn w' u (fltA l p) B → (∀ b ∈ B, w.heap.size ≤ b ∧ b < w'.heap.size) → Below w.heap.size w w' → KEnd (fltA l p) w e w') := fun u e B w' h1 h2 h3 h4 => ⟨u, h1, B, h2, h3, h4⟩
  generalize fltA l p = A at *
  generalize cntF l p = nf at *
  show Calls _ _ _ _ fun e w' => KEnd A w e w'
  clear hW hst hby HC hlook
  go_enter Tryz.func27, Tryz.ntmps27
  go_wp2_with fail
  refine HSo.out.mono ?_
  rintro e w1 ⟨y, rfl, hSR, b1⟩
  obtain ⟨ya, yc, ey⟩ := hSR.shape
  rw [adrL_len] at ey
  have hSR' := hSR
  rw [ey] at hSR'
  have HSr : Hid (∀ wx, Below w1.heap.size w1 wx → ∀ j (hj : j < l.length), ∃ g, ya = some ⟨g, 0, none⟩ ∧ wx.cell? ⟨g, j, none⟩ = some (.string (strOf (l[j]).1))) := fun wx hb j hj => by
    obtain ⟨g, e1, e2, e3⟩ := hSR'.at (j := j) (by rw [adrL_len]; exact hj)
    rw [adrL_at l hj] at e3
    exact ⟨g, e1, (World.cell?_of_block (hb.block g e2)).trans e3⟩
  subst ey
  have HB1 := hide' b1
  have hz1 := b1.size
  clear hSR hSR' b1 HSo
  go_wp2_with fail
  go_loopw [5, 11] (fun x i wr => ∃ j : Nat, j ≤ l.length ∧ i = .int .i64 j ∧ ∃ cs Bi, RW 22 1 (ItK A) wr w1.heap.size x (nf j) cs Bi ∧ Below w1.heap.size w1 wr) (fun _ i _ => l.length - (intOf i).toNat)
  case atStart => exact ⟨0, Nat.zero_le _, rfl, _, _, by rw [hc0]; exact RW.nil _ _ _ _ _, Below.refl _ _⟩
  case round =>
    obtain ⟨j, hj, rfl, cs, Bi, hR, hbel⟩ := hrel
    have hsz := hbel.size
    by_cases hjn : j < l.length
    · have hjn' : (j : Int) < (l.length : Int) := by omega
      obtain ⟨g, rfl, hcell⟩ := HSr.out wr hbel j hjn
      have hbw : Below w.heap.size w wr := Below.on HB1.out hbel
      have hce := HCe.out wr hbw
      obtain ⟨m0, a0, n0, c0, t0, u0, hps, hlk⟩ := HLk.out j hjn wr hbw
      have HCj := hide' (HC0.out j hjn wr hbw)
      rw [hps] at HCj hlk
      clear hps
      obtain ⟨hls, hbs⟩ := HSh.out j hjn
      cases hp : p l[j] with
      | false =>
        rw [hp] at HCj
        have hn := HFn.out j hjn hp
        have HN : Hid (∀ w2, Below wr.heap.size wr w2 → RW 22 1 (ItK A) w2 w1.heap.size u5 (nf (j + 1)) cs Bi ∧ Below w1.heap.size w1 w2) := fun w2 h => by
          rw [hn]
          exact ⟨hR.agree (ItK.agree A) (fun b hb => h.block b (hR.2.2.2.2.2 b hb).2) h.size, Below.on hbel h⟩
        generalize strOf (l[j]).1 = sx at *
        clear hR hbel hn hp hls hbs hbw
        go_wp2_with fail
        refine HCj.out.mono ?_
        rintro e w2 ⟨rfl, b2⟩
        have HN' := hide' (HN.out w2 b2)
        clear b2 HN HCj hcell hce hlk
        go_wp2
        go_roundw
        case rel => exact ⟨j + 1, by omega, by go_num, _, _, HN'.out.1, HN'.out.2⟩
        case measure => simp [intOf]; omega
      | true =>
        rw [hp] at HCj
        obtain ⟨hn1, hn2, hn3⟩ := HFy.out j hjn hp
        have hvK : ∃ q c, u5 = .slice q (nf j) c := by
          rcases hR.2.2.1.2 with ⟨rfl, h0⟩ | ⟨g, cap, cur, rfl, _⟩
          · exact ⟨none, 0, by rw [h0]⟩
          · exact ⟨_, _, rfl⟩
        obtain ⟨pK, cK, rfl⟩ := hvK
        have HN : Hid (∀ w2, Below wr.heap.size wr w2 → RW 22 1 (ItK A) w2 w1.heap.size (.slice pK (nf j) cK) (nf j) cs Bi ∧ Below w1.heap.size w1 w2) := fun w2 h => ⟨hR.agree (ItK.agree A) (fun b hb => h.block b (hR.2.2.2.2.2 b hb).2) h.size, Below.on hbel h⟩
        have hnl : nf j ≤ 16 := by omega
        have HCv : Hid (∀ w2 : World, ∃ cap wB, (convert 9 22 (.string (strOf (l[j]).1))).run Tryz.prog w2 = .ok (.slice (some ⟨w2.heap.size, 0, none⟩) (l[j]).1.length cap) wB ∧ TOwn wB (.slice (some ⟨w2.heap.size, 0, none⟩) (l[j]).1.length cap) (l[j]).1 [w2.heap.size] ∧ Below w2.heap.size w2 wB ∧ wB.heap.size = w2.heap.size + 1) := fun w2 => conv_back (l[j]).1 hbs (by omega) w2
        have HE1 := hide' hn1
        have HE2 := hide' hn2
        generalize (l[j]).1 = xs at *
        generalize hnk : xs.length = nk at *
        generalize hsx : strOf xs = sx at *
        generalize hnj : nf j = nj at *
        clear hR hbel hn1 hn2 hn3 hp hbs hbw hsx hnj hnk
        go_wp2_with fail
        refine HCj.out.mono ?_
        rintro e w2 ⟨rfl, b2⟩
        obtain ⟨hR2, hbel2⟩ := HN.out w2 b2
        obtain ⟨ck', wC, hconv, hTo, hBb, hzB⟩ := HCv.out w2
        have hrowK : wC.ownsRow w1.heap.size 22 1 (.slice pK nj cK) nj cs.flatten := hR2.2.2.1.kept (row := none) ⟨hBb.os, hBb.tape, hBb.output, hBb.size, fun k hk _ => hBb.block k hk⟩ (by cases hv : (Value.slice pK nj cK).ownBlock <;> simp)
        have HR := hide' (And.intro hR2 hbel2)
        have hsz2 := hbel2.size
        have HTo := hide' hTo
        have HBb := hide' hBb
        have HzB := hide' hzB
        have HRK := hide' hrowK
        clear hR2 hbel2 hTo hBb hzB hrowK b2 HN HCv HCj hcell hce hlk
        go_wp2_with (at_builtin; refine wpList_append_lies _ rfl (.tmp 23) (.tmp 26) 27 (by rfl) w1.heap.size 22 iT (.slice none 0 0) 1 24 Tryz.underlying27 hiT hy0 hy1 hy2 rfl (by decide) (.slice pK nj cK) nj cs.flatten (by rfl) (HRK.out.alloc _) ⟨wC.heap.size, 0, none⟩ 1 1 [.slice (some ⟨w2.heap.size, 0, none⟩) nk ck'] (by rfl) (by rfl) (World.news_of_block (cs := #[.slice (some ⟨w2.heap.size, 0, none⟩) nk ck']) (t := 22) (fr := (0, 0)) (heap_alloc_new wC _)) (by simp [Value.oneCell']) (by omega) (by unfold maxLen; omega) (by omega) (by have := HzB.out; simp; omega) (wC.heap.size + 1) (by simp) ?_; intro g6 cp6 w6 hown6 hg6 hat6 hlt6; obtain ⟨cs', Bi', hR6, hB6⟩ := rwk_stepT HR.out.1 HR.out.2 HBb.out (by rw [HE2.out]; exact HTo.out) (by have := HzB.out; intro b hb; simp at hb; omega) (by simp) hown6 hg6 hat6; replace hR6 := hide' hR6; replace hB6 := hide' hB6; clear hown6 hg6 hat6 hlt6)
        go_wp2
        go_roundw
        case rel => exact ⟨j + 1, by omega, by go_num, _, _, by rw [HE1.out]; exact hR6.out, hB6.out⟩
        case measure => simp [intOf]; omega
    · have hjn' : j = l.length := by omega
      subst hjn'
      have hkl' : ¬ (l.length : Int) < (l.length : Int) := by omega
      rw [HFe.out] at hR
      have HR := hide' (And.intro hR hbel)
      clear hR hbel
      go_wp2_with fail
      go_ret
      have hbd := HR.out.1.2.2.2.2.2
      exact HEnd.out _ _ _ _ rfl HR.out.1.kown (fun b hb => by have := hbd b hb; omega) (Below.on HB1.out HR.out.2)

end Go.Proofs.YtngjhimieacjhaaGreatDoor
/-
  Tainted and Needs of the program.
-/
namespace Go.Proofs.YtngjhimieacjhaaGreatDoor
open Go.RowKit Go.Shelf
set_option linter.unusedVariables false
set_option linter.unusedSimpArgs false

set_option maxHeartbeats 800000 in
theorem tainted1_any (m : Option Nat) (a : Option Addr) (n c : Nat) (t : Bool) (u : Int) (w : World) :
    Calls Tryz.prog 33 #[.agg #[.map m, .slice a n c, .bool t, .int .i64 u]] w fun e w' => e = .returned (.bool t) ∧ Below w.heap.size w w' := by
  have HA : Hid (Below w.heap.size w (w.alloc (.cells #[.map m, .slice a n c, .bool t, .int .i64 u] 62))) := (Below.refl _ _).alloc (Nat.le_refl _) _
  go_enter Tryz.func33, Tryz.ntmps33
  go_wp2
  go_ret
  exact ⟨rfl, HA.out⟩

theorem contains_any (base : Nat) (a : Option Addr) (n c : Nat) (ks : List (List Int)) (xs : List Int) (w : World) (hS : SR w base (.slice a n c) ks) (hb : ∀ i, i < ks.length → ∀ x ∈ ks.getD i [], Byt x) (hx : ∀ x ∈ xs, Byt x) (hl : ks.length ≤ 1048576) :
    Calls Tryz.prog 29 #[.slice a n c, .string (strOf xs)] w fun e w' => e = .returned (.bool (decide (xs ∈ ks))) ∧ w' = w := by
  obtain ⟨_, _, e⟩ := hS.shape
  obtain rfl : n = ks.length := by simp only [Value.slice.injEq] at e; exact e.2.1
  clear e
  by_cases hn : ks = []
  · subst hn
    exact Tryz.slices_Contains_string_empty a c (strOf xs) w
  · have h0 : 0 < ks.length := List.length_pos_iff.2 hn
    obtain ⟨g, rfl, _, _⟩ := hS.at h0
    have hc : ∀ j, j < (ks.map strOf).length → w.cell? ⟨g, 0 + j, none⟩ = some (.string ((ks.map strOf).getD j ByteArray.empty)) := fun j hj => by
      have hj' : j < ks.length := by simpa using hj
      obtain ⟨g', e1, _, e2⟩ := hS.at hj'
      simp only [Option.some.injEq, Addr.mk.injEq, and_true] at e1
      subst e1
      rw [Nat.zero_add, e2]
      congr 2
      simp [List.getD_eq_getElem?_getD, hj']
    refine (Tryz.slices_Contains_string g 0 ks.length c (ks.map strOf) (strOf xs) w (by simp) (by omega) hc).mono ?_
    rintro e w' ⟨rfl, rfl⟩
    have ht : (ks.map strOf).take ks.length = ks.map strOf := List.take_of_length_le (by simp)
    rw [ht]
    refine ⟨?_, rfl⟩
    have hiff : Lib.containsS (ks.map strOf) (strOf xs) = true ↔ xs ∈ ks := by
      rw [Lib.containsS_iff, List.mem_map]
      constructor
      · rintro ⟨y, hy, e⟩
        obtain ⟨i, hi, rfl⟩ := List.getElem_of_mem hy
        have hb' : ∀ x ∈ ks[i], Byt x := by
          have h := hb i hi
          rw [List.getD_eq_getElem?_getD, List.getElem?_eq_getElem hi] at h
          exact h
        have h2 := strOf_eq hb' hx
        rw [e] at h2
        simp at h2
        have h3 : ks[i] = xs := h2
        rw [← h3]
        exact hy
      · exact fun h => ⟨xs, h, rfl⟩
    by_cases h : xs ∈ ks
    · rw [hiff.2 h, decide_eq_true h]
    · rw [decide_eq_false h]
      cases hq : Lib.containsS (ks.map strOf) (strOf xs) with
      | false => rfl
      | true => exact absurd (hiff.1 hq) h

set_option maxHeartbeats 800000 in
theorem needs1_any (base : Nat) (m : Option Nat) (a : Option Addr) (n c : Nat) (t : Bool) (u : Int) (q : Nat) (ks : List (List Int)) (xa : Option Addr) (xc : Nat) (xs : List Int) (w : World) (hS : SR w base (.slice a n c) ks) (hb : ∀ i, i < ks.length → ∀ x ∈ ks.getD i [], Byt x) (hl : ks.length ≤ 1048576) (hq : w.heap[q]? = some (.cells #[.slice xa xs.length xc] 22)) (hX : Seg w xa xs) (hXb : ∀ x, xa = some x → xs ≠ [] → x.block < w.heap.size) :
    Calls Tryz.prog 28 #[.agg #[.map m, .slice a n c, .bool t, .int .i64 u], .pointer (some ⟨q, 0, none⟩)] w fun e w' => e = .returned (.bool (decide (xs ∈ ks))) ∧ Below w.heap.size w w' := by
  have HA : Hid (Below w.heap.size w (w.alloc (.cells #[.map m, .slice a n c, .bool t, .int .i64 u] 62))) := (Below.refl _ _).alloc (Nat.le_refl _) _
  have hql : q < w.heap.size := (Array.getElem?_eq_some_iff.1 hq).1
  have hS2 : SR (w.alloc (.cells #[.map m, .slice a n c, .bool t, .int .i64 u] 62)) base (.slice a n c) ks := hS.carry (Nat.le_refl _) (fun g hg => HA.out.block g (World.ownsRow.lt hS g hg).2)
  have HCo := hide' (contains_any base a n c ks xs _ hS2 hb hX.1 hl)
  have hq2 : (w.alloc (.cells #[.map m, .slice a n c, .bool t, .int .i64 u] 62)).heap[q]? = some (.cells #[.slice xa xs.length xc] 22) := (HA.out.block q hql).trans hq
  have hcell : (w.alloc (.cells #[.map m, .slice a n c, .bool t, .int .i64 u] 62)).cell? ⟨q, 0, none⟩ = some (.slice xa xs.length xc) := by rw [cell_of_row _ q 0 _ _ _ hq2]; rfl
  have hcv : (convert 22 9 (.slice xa xs.length xc)).run Tryz.prog (w.alloc (.cells #[.map m, .slice a n c, .bool t, .int .i64 u] 62)) = .ok (.string (strOf xs)) (w.alloc (.cells #[.map m, .slice a n c, .bool t, .int .i64 u] 62)) := conv_seg xc (hX.below HA.out hXb)
  generalize strOf xs = sx at *
  generalize decide (xs ∈ ks) = bb at *
  generalize xs.length = nl at *
  clear hS hS2 hq hq2 hX hXb hb
  go_enter Tryz.func28, Tryz.ntmps28
  go_wp2_with fail
  refine HCo.out.mono ?_
  rintro e w2 ⟨rfl, rfl⟩
  go_wp2
  go_ret
  exact ⟨rfl, HA.out⟩

theorem selA_no {d : Nat} {s : Stt d} (p : Ntr d → Bool) (h : staB d s = false) : selA d s p = [] := by unfold selA; rw [h]; simp
theorem selA_yes {d : Nat} {s : Stt d} (p : Ntr d → Bool) (h : staB d s = true) : selA d s p = fltA s.2.2.2.2 p := by unfold selA; rw [h]; simp

set_option maxHeartbeats 1600000 in
set_option maxRecDepth 100000 in
theorem impl_Tainted_any (D N : Nat) (cs : List Value) (s : Stt (D + 1)) (w : World) (hx : SaSg (fun b => b < N) w (D + 1) cs s) (hN : N ≤ w.heap.size) (hz : SaSz (D + 1) s) (hEr : Errs w) :
    Calls Tryz.prog 19 #[.agg cs.toArray] w (KEnd (selA (D + 1) s (tntP (D + 1))) w) := by
  have hA : ∀ wx, Below w.heap.size w wx → Agree (fun b => b < N) w wx := fun wx hb => agree_below (hb.mono hN)
  have HA1 : Hid (∀ o : Obj, Below w.heap.size w (w.alloc o)) := fun o => (Below.refl _ _).alloc (Nat.le_refl _) o
  have HNo : Hid (staB (D + 1) s = false → selA (D + 1) s (tntP (D + 1)) = []) := selA_no _
  have HYe : Hid (staB (D + 1) s = true → selA (D + 1) s (tntP (D + 1)) = fltA s.2.2.2.2 (tntP (D + 1))) := selA_yes _
  have hx' := hx
  obtain ⟨pa, pc, ea, ec, rfl, -, he⟩ := hx.form
  have HWo : Hid (∀ wx, Below w.heap.size w wx → Calls Tryz.prog 26 #[.agg #[.int .i64 s.1, .bool s.2.1, .slice pa s.2.2.1.length pc, .int .i64 s.2.2.2.1, .slice ea s.2.2.2.2.length ec]] wx fun e w' => Below wx.heap.size wx w' ∧ ((staB (D + 1) s = false ∧ e = .returned (.tuple #[.pointer none, .bool false])) ∨ (staB (D + 1) s = true ∧ ∃ p, e = .returned (.tuple #[.pointer (some p), .bool true]) ∧ Hid (∀ wy, Below w'.heap.size w' wy → Calls Tryz.prog 27 #[.pointer (some p), .func (.func 33) #[] #[]] wy (KEnd (fltA s.2.2.2.2 (tntP (D + 1))) wy))))) := fun wx hb => by
    refine (worldOf_any (D + 1) N _ s wx (hx'.agree (hA wx hb)) (by have := hb.size; omega) hz (hEr.grow hb)).mono ?_
    rintro e w' ⟨b1, ⟨h1, rfl⟩ | ⟨h1, wB, mB, ps, rfl, hW⟩⟩
    · exact ⟨b1, .inl ⟨h1, rfl⟩⟩
    · refine ⟨b1, .inr ⟨h1, _, rfl, fun wy hy => ?_⟩⟩
      refine addrsT_any (D + 1) s wx.heap.size wB mB ps (tntP (D + 1)) wy (wld_on hW hy) h1 (fun i hi => (he.each hi).1) (fun i hi wz hzz => ?_)
      obtain ⟨m, a, n, c, e, _⟩ := (wld_on (wld_on hW hy) hzz).2.2.1 i hi
      rw [e]
      exact tainted1_any m a n c _ _ wz
  generalize selA (D + 1) s (tntP (D + 1)) = A at *
  generalize fltA s.2.2.2.2 (tntP (D + 1)) = A2 at *
  generalize staB (D + 1) s = sb at *
  obtain ⟨s0, s1, nm, s3, l⟩ := s
  simp only at HWo ⊢
  clear hx hx' he hz hEr hA
  generalize nm.length = pl at *
  generalize l.length = ll at *
  show Calls _ _ _ _ fun e w' => KEnd A w e w'
  have HEnd : Hid (∀ u e B w', e = .returned u → KOwn w' u A B → (∀ b ∈ B, w.heap.size ≤ b ∧ b < w'.heap.size) → Below w.heap.size w w' → KEnd A w e w') := fun u e B w' h1 h2 h3 h4 => ⟨u, h1, B, h2, h3, h4⟩
  have HNil : Hid (∀ w', A = [] → Below w.heap.size w w' → KEnd A w (.returned (.slice none 0 0)) w') := fun w' h1 h2 => by rw [h1]; exact kEnd_nil _ _ h2
  go_enter Tryz.func19, Tryz.ntmps19
  go_wp2_with fail
  refine (HWo.out _ (HA1.out _)).mono ?_
  rintro e w1 ⟨b1, ⟨hs, rfl⟩ | ⟨hs, p, rfl, HAd⟩⟩
  · have HB := hide' (HNil.out w1 (HNo.out hs) (Below.on (HA1.out _) b1))
    clear b1 HWo HNil HEnd hs
    go_wp2
    go_ret
    exact HB.out
  · have HB := hide' (Below.on (HA1.out _) b1)
    have HY := hide' (HYe.out hs)
    clear b1 HWo HNil HYe HNo hs
    go_wp2_with fail
    refine (HAd.out _ (Below.refl _ _)).mono ?_
    rintro e w2 ⟨u, rfl, B, hO, hBb, b2⟩
    have HF : Hid (KEnd A w (.returned u) w2) := HEnd.out u _ B w2 rfl (by rw [HY.out]; exact hO) (fun b hb => by have h1 := hBb b hb; have h2 := HB.out.size; omega) (Below.on HB.out b2)
    obtain ⟨ua, un, uc, rfl⟩ := hO.form
    clear hO hBb b2 HAd HEnd HY HB
    go_wp2
    go_ret
    exact HF.out

set_option maxHeartbeats 1600000 in
set_option maxRecDepth 100000 in
theorem impl_Needs_any (D N : Nat) (cs : List Value) (s : Stt (D + 1)) (xa : Option Addr) (xc : Nat) (xs : List Int) (w : World) (hx : SaSg (fun b => b < N) w (D + 1) cs s) (hN : N ≤ w.heap.size) (hz : SaSz (D + 1) s) (hX : TSeg (fun b => b < N) w (.slice xa xs.length xc) xs) (hxl : xs.length ≤ 1048576) (hEr : Errs w) :
    Calls Tryz.prog 10 #[.agg cs.toArray, .slice xa xs.length xc] w (KEnd (selA (D + 1) s (ndsP (D + 1) xs)) w) := by
  have hA : ∀ wx, Below w.heap.size w wx → Agree (fun b => b < N) w wx := fun wx hb => agree_below (hb.mono hN)
  have HXs : ∀ wx, Below w.heap.size w wx → Seg wx xa xs ∧ ∀ x, xa = some x → xs ≠ [] → x.block < wx.heap.size := fun wx hb => by
    obtain ⟨a', c', e1, hsa, _, _, _, hbl⟩ := hX.agree (hA wx hb)
    simp only [Value.slice.injEq, true_and] at e1
    obtain ⟨rfl, rfl⟩ := e1
    exact ⟨hsa, fun x e1 e2 => by have := hb.size; have := hbl x e1 e2; omega⟩
  have HA2 : Hid (∀ o o' : Obj, Below w.heap.size w ((w.alloc o).alloc o')) := fun o o' => ((Below.refl _ _).alloc (Nat.le_refl _) o).alloc (by simp) o'
  have HBx : Hid (∀ o o' : Obj, ((w.alloc o).alloc o').heap[w.heap.size + 1]? = some o') := fun o o' => (two_boxes w o o').2
  have HNo : Hid (staB (D + 1) s = false → selA (D + 1) s (ndsP (D + 1) xs) = []) := selA_no _
  have HYe : Hid (staB (D + 1) s = true → selA (D + 1) s (ndsP (D + 1) xs) = fltA s.2.2.2.2 (ndsP (D + 1) xs)) := selA_yes _
  have hx' := hx
  obtain ⟨pa, pc, ea, ec, rfl, -, he⟩ := hx.form
  have HWo : Hid (∀ wx, Below w.heap.size w wx → wx.heap[w.heap.size + 1]? = some (.cells #[.slice xa xs.length xc] 22) → Calls Tryz.prog 26 #[.agg #[.int .i64 s.1, .bool s.2.1, .slice pa s.2.2.1.length pc, .int .i64 s.2.2.2.1, .slice ea s.2.2.2.2.length ec]] wx fun e w' => Below wx.heap.size wx w' ∧ ((staB (D + 1) s = false ∧ e = .returned (.tuple #[.pointer none, .bool false])) ∨ (staB (D + 1) s = true ∧ ∃ p, e = .returned (.tuple #[.pointer (some p), .bool true]) ∧ Hid (∀ wy, Below w'.heap.size w' wy → Calls Tryz.prog 27 #[.pointer (some p), .func (.func 28) #[] #[.pointer (some ⟨w.heap.size + 1, 0, none⟩)]] wy (KEnd (fltA s.2.2.2.2 (ndsP (D + 1) xs)) wy))))) := fun wx hb hbx => by
    refine (worldOf_any (D + 1) N _ s wx (hx'.agree (hA wx hb)) (by have := hb.size; omega) hz (hEr.grow hb)).mono ?_
    rintro e w' ⟨b1, ⟨h1, rfl⟩ | ⟨h1, wB, mB, ps, rfl, hW⟩⟩
    · exact ⟨b1, .inl ⟨h1, rfl⟩⟩
    · refine ⟨b1, .inr ⟨h1, _, rfl, fun wy hy => ?_⟩⟩
      refine addrsN_any (D + 1) s wx.heap.size wB mB ps (ndsP (D + 1) xs) (.pointer (some ⟨w.heap.size + 1, 0, none⟩)) wy (wld_on hW hy) h1 (fun i hi => (he.each hi).1) (fun i hi wz hzz => ?_)
      obtain ⟨m, a, n, c, e, _, hS, _⟩ := (wld_on (wld_on hW hy) hzz).2.2.1 i hi
      rw [e]
      have hbz : Below wx.heap.size wx wz := Below.on (Below.on b1 hy) hzz
      have hbw : Below w.heap.size w wz := Below.on hb hbz
      have hbx2 := (hbz.block _ (Array.getElem?_eq_some_iff.1 hbx).1).trans hbx
      exact needs1_any _ m a n c _ _ _ _ xa xc xs wz hS (he.each hi).2 (Nat.le_trans (entB_deps (staB_ent h1 hi)).1 (by omega)) hbx2 (HXs wz hbw).1 (HXs wz hbw).2
  generalize selA (D + 1) s (ndsP (D + 1) xs) = A at *
  generalize fltA s.2.2.2.2 (ndsP (D + 1) xs) = A2 at *
  generalize staB (D + 1) s = sb at *
  obtain ⟨s0, s1, nm, s3, l⟩ := s
  simp only at HWo ⊢
  clear hx hx' he hz hEr hA HXs hX
  generalize nm.length = pl at *
  generalize l.length = ll at *
  generalize xs.length = xl at *
  show Calls _ _ _ _ fun e w' => KEnd A w e w'
  have HEnd : Hid (∀ u e B w', e = .returned u → KOwn w' u A B → (∀ b ∈ B, w.heap.size ≤ b ∧ b < w'.heap.size) → Below w.heap.size w w' → KEnd A w e w') := fun u e B w' h1 h2 h3 h4 => ⟨u, h1, B, h2, h3, h4⟩
  have HNil : Hid (∀ w', A = [] → Below w.heap.size w w' → KEnd A w (.returned (.slice none 0 0)) w') := fun w' h1 h2 => by rw [h1]; exact kEnd_nil _ _ h2
  go_enter Tryz.func10, Tryz.ntmps10
  go_wp2_with fail
  refine (HWo.out _ (HA2.out _ _) (HBx.out _ _)).mono ?_
  rintro e w1 ⟨b1, ⟨hs, rfl⟩ | ⟨hs, p, rfl, HAd⟩⟩
  · have HB := hide' (HNil.out w1 (HNo.out hs) (Below.on (HA2.out _ _) b1))
    clear b1 HWo HNil HEnd hs
    go_wp2
    go_ret
    exact HB.out
  · have HB := hide' (Below.on (HA2.out _ _) b1)
    have HY := hide' (HYe.out hs)
    clear b1 HWo HNil HYe HNo hs
    go_wp2_with fail
    refine (HAd.out _ (Below.refl _ _)).mono ?_
    rintro e w2 ⟨u, rfl, B, hO, hBb, b2⟩
    have HF : Hid (KEnd A w (.returned u) w2) := HEnd.out u _ B w2 rfl (by rw [HY.out]; exact hO) (fun b hb => by have h1 := hBb b hb; have h2 := HB.out.size; omega) (Below.on HB.out b2)
    obtain ⟨ua, un, uc, rfl⟩ := hO.form
    clear hO hBb b2 HAd HEnd HY HB
    go_wp2
    go_ret
    exact HF.out
end Go.Proofs.YtngjhimieacjhaaGreatDoor
