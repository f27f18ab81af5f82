/-
  Texts that a law leans on, one behind the other; no statement is proved here.
-/
import Derived.Test.YtngjhimieacjhaaGreatDoorPk19
/-
  Tainted of the specification.
-/
namespace Go.Proofs.YtngjhimieacjhaaGreatDoor
open Go.RowKit
set_option linter.unusedVariables false
set_option linter.unusedSimpArgs false

set_option maxHeartbeats 6400000 in
set_option maxRecDepth 100000 in
theorem spec_Tainted_any (D N : Nat) (cs : List Value) (s : Stt (D + 1)) (w : World) (hx : SaSg (fun b => b < N) w (D + 1) cs s) (hN : N ≤ w.heap.size) (hz : SaSz (D + 1) s) :
    Calls Tryz.prog 18 #[.agg cs.toArray] w (KEnd (selA (D + 1) s (tntP (D + 1))) w) := by
  have hA : ∀ wx, Below w.heap.size w wx → Agree (fun b => b < N) w wx := fun wx hb => agree_below (hb.mono hN)
  obtain ⟨iT, hiT, hy0, hy1, hy2⟩ := info_parts infoT
  have HA1 : Hid (∀ o : Obj, Below w.heap.size w (w.alloc o)) := fun o => (Below.refl _ _).alloc (Nat.le_refl _) o
  have HBx : Hid (∀ (o : Obj) wx, Below (w.alloc o).heap.size (w.alloc o) wx → wx.heap[w.heap.size]? = some o) := fun o wx h => box_row h
  have HNo : Hid (staB (D + 1) s = false → selA (D + 1) s (tntP (D + 1)) = []) := fun h => by unfold selA; rw [h]; simp
  have HSt : Hid (∀ wx, Below w.heap.size w wx → Calls Tryz.prog 24 #[.agg cs.toArray] wx fun e w' => e = .returned (.bool (staB (D + 1) s)) ∧ Below wx.heap.size wx w') := fun wx hb => spec_StateOk_any (D + 1) N cs s wx (hx.agree (hA wx hb)) (by have := hb.size; omega)
  obtain ⟨pa, pc, ea, ec, rfl, -, he⟩ := hx.form
  have HAt : Hid (∀ k (hk : k < s.2.2.2.2.length), ∃ kb ko na np xa xp, ea = some ⟨kb, ko, none⟩ ∧ ∀ wx, Below w.heap.size w wx → wx.cell? ⟨kb, ko + k * 9, none⟩ = some (.slice na (s.2.2.2.2[k]).1.length np) ∧ wx.cell? ⟨kb, ko + k * 9 + 6, none⟩ = some (.slice xa (s.2.2.2.2[k]).2.2.1.length xp) ∧ wx.cell? ⟨kb, ko + k * 9 + 7, none⟩ = some (.bool (s.2.2.2.2[k]).2.2.2.1) ∧ TSeg (fun b => b < N) wx (.slice na (s.2.2.2.2[k]).1.length np) (s.2.2.2.2[k]).1 ∧ KSeg (fun b => b < N) wx (.slice xa (s.2.2.2.2[k]).2.2.1.length xp) (s.2.2.2.2[k]).2.2.1) := fun k hk => nt_at he hN hk
  have HYs : Hid (staB (D + 1) s = true → selA (D + 1) s (tntP (D + 1)) = fltA s.2.2.2.2 (tntP (D + 1)) ∧ s.2.2.2.2.length ≤ 16 ∧ ∀ i (h : i < s.2.2.2.2.length), (s.2.2.2.2[i]).1.length ≤ 60 ∧ (s.2.2.2.2[i]).2.2.1.length ≤ 8 ∧ ∀ a b, a < (s.2.2.2.2[i]).2.2.1.length → b < (s.2.2.2.2[i]).2.2.1.length → (s.2.2.2.2[i]).2.2.1.getD a [] = (s.2.2.2.2[i]).2.2.1.getD b [] → a = b) := fun h => ⟨by unfold selA; rw [h]; simp, staB_len h, fun i hi => ⟨staB_short h hi, (entB_deps (staB_ent h hi)).1, fun a b ha hb e => up_inj (entB_deps (staB_ent h hi)).2 ha hb e⟩⟩
  have HNN := hide' hN
  have HEnd : Hid (∀ u e B w', e = .returned u → KOwn w' u (selA (D + 1) s (tntP (D + 1))) B → (∀ b ∈ B, w.heap.size ≤ b ∧ b < w'.heap.size) → Below w.heap.size w w' → KEnd (selA (D + 1) s (tntP (D + 1))) w e w') := fun u e B w' h1 h2 h3 h4 => ⟨u, h1, B, h2, h3, h4⟩
  have HNil : Hid (∀ w', staB (D + 1) s = false → Below w.heap.size w w' → KEnd (selA (D + 1) s (tntP (D + 1))) w (.returned (.slice none 0 0)) w') := fun w' h1 h2 => by rw [HNo.out h1]; exact kEnd_nil _ _ h2
  have hcm : s.2.2.2.2.length ≤ 1048576 := hz.2.1
  obtain ⟨s0, s1, nm, s3, l⟩ := s
  simp only at HSt HAt HYs HEnd HNil hcm ⊢
  clear hx he hz hA HNo hN
  generalize selA (D + 1) (s0, s1, nm, s3, l) (tntP (D + 1)) = A0 at *
  generalize staB (D + 1) (s0, s1, nm, s3, l) = sb at *
  generalize nm.length = pl at *
  show Calls _ _ _ _ fun e w' => KEnd A0 w e w'
  go_enter Tryz.func18, Tryz.ntmps18
  go_wp2_with fail
  refine (HSt.out _ (HA1.out _)).mono ?_
  rintro e w1 ⟨rfl, b1⟩
  have HR1 := hide' (HBx.out _ _ b1)
  have HB1 := hide' (Below.on (HA1.out _) b1)
  clear b1 HSt HBx
  cases sb with
  | false =>
    have HB := hide' (HNil.out w1 rfl HB1.out)
    clear HNil HEnd
    go_wp2
    go_ret
    exact HB.out
  | true =>
  obtain ⟨eA, hl16, hall⟩ := HYs.out rfl
  have HAll := hide' hall
  have HFy : Hid (∀ k (hk : k < l.length), (tntP (D + 1)) l[k] = true → cntF l (tntP (D + 1)) (k + 1) = cntF l (tntP (D + 1)) k + 1 ∧ A0.getD (cntF l (tntP (D + 1)) k) [] = (l[k]).1 ∧ cntF l (tntP (D + 1)) k < A0.length) := fun k hk h => by rw [eA]; exact ⟨cntF_yes hk h, fltA_at hk h, cntF_lt hk h⟩
  have HFn : Hid (∀ k (hk : k < l.length), (tntP (D + 1)) l[k] = false → cntF l (tntP (D + 1)) (k + 1) = cntF l (tntP (D + 1)) k) := fun k hk h => cntF_no hk h
  have HFe : Hid (cntF l (tntP (D + 1)) l.length = A0.length) := by rw [eA]; exact cntF_end
  have hfl : A0.length ≤ 16 := by rw [eA]; exact Nat.le_trans fltA_len hl16
  have hc0 : cntF l (tntP (D + 1)) 0 = 0 := cntF_zero
  have HPe : Hid (∀ k (hk : k < l.length), tntP (D + 1) l[k] = (l[k]).2.2.2.1) := fun k hk => rfl
  generalize cntF l (tntP (D + 1)) = nf at *
  generalize tntP (D + 1) = p at *
  clear HYs eA hall HNil
  go_wp2_with fail
  go_loopw [3, 4] (fun x i wr => ∃ k : Nat, k ≤ l.length ∧ i = .int .i64 k ∧ ∃ cs Bi, RW 22 1 (ItK A0) wr w1.heap.size x (nf k) cs Bi ∧ Below w1.heap.size w1 wr) (fun _ i _ => l.length - (intOf i).toNat)
  case atStart => exact ⟨0, Nat.zero_le _, rfl, _, _, by rw [hc0]; exact RW.nil _ _ _ _ _, Below.refl _ _⟩
  case round =>
    obtain ⟨k, hk, rfl, cs, Bi, hR, hbel⟩ := hrel
    have hsz := hbel.size
    have hbox := row_on HR1.out hbel
    obtain ⟨f0, f1, f2, f3, f4⟩ := five_row hbox
    by_cases hkn : k < l.length
    · have hkn' : (k : Int) < (l.length : Int) := by omega
      have hk0 : (0 : Int) ≤ (k : Int) := Int.natCast_nonneg _
      obtain ⟨kb, ko, na, np, xa, xp, rfl, hat⟩ := HAt.out k hkn
      have hbw : Below w.heap.size w wr := Below.on HB1.out hbel
      obtain ⟨q0, q6, q7, hT, -⟩ := hat wr hbw
      have hpe := HPe.out k hkn
      cases hp : (l[k]).2.2.2.1 with
      | false =>
        rw [hp] at q7 hpe
        have hn := HFn.out k hkn hpe
        have HN : Hid (RW 22 1 (ItK A0) wr w1.heap.size u3 (nf (k + 1)) cs Bi ∧ Below w1.heap.size w1 wr) := ⟨by rw [hn]; exact hR, hbel⟩
        clear hR hbel hn hpe hp hat hT hbw q0 q6 hbox
        go_wp2
        go_roundw
        case rel => exact ⟨k + 1, by omega, by go_num, _, _, HN.out.1, HN.out.2⟩
        case measure => simp [intOf]; omega
      | true =>
        rw [hp] at q7 hpe
        obtain ⟨hn1, hn2, hn3⟩ := HFy.out k hkn hpe
        have hvK : ∃ q c, u3 = .slice q (nf k) c := by
          rcases hR.2.2.1.2 with ⟨rfl, h0⟩ | ⟨g, cap, cur, rfl, _⟩
          · exact ⟨none, 0, by rw [h0]⟩
          · exact ⟨_, _, rfl⟩
        obtain ⟨pK, cK, rfl⟩ := hvK
        have hBa : Below wr.heap.size wr (wr.alloc (.cells #[] 5)) := (Below.refl _ _).alloc (Nat.le_refl _) _
        obtain ⟨_, _, _, _, f4'⟩ := five_row (row_on hbox hBa)
        obtain ⟨q0', _, _, hT', _⟩ := hat _ (Below.on hbw hBa)
        obtain ⟨hsu', hnu, -, -⟩ := tseg_in hT' (by have := HNN.out; have := hbw.size; simp; omega)
        have hE : Bts (wr.alloc (.cells #[] 5)) wr.heap.size (.slice (some ⟨wr.heap.size, 0, none⟩) 0 0) [] := ⟨by simp, by simp [cellsOf], .inr ⟨wr.heap.size, 0, #[], rfl, Nat.le_refl _, heap_alloc_new wr _, Nat.le_refl _, Nat.zero_le _, rfl, rfl⟩⟩
        have HR := hide' (And.intro hR hbel)
        have hBe : Hid (Below wr.heap.size wr (wr.alloc (.cells #[] 5))) := hBa
        have Hv : Hid (∀ w5, Below wr.heap.size wr w5 → w5.ownsRow w1.heap.size 22 1 (.slice pK (nf k) cK) (nf k) cs.flatten) := fun w5 hb5 => hR.2.2.1.kept (row := none) ⟨hb5.os, hb5.tape, hb5.output, hb5.size, fun k hk _ => hb5.block k hk⟩ (by cases hv : (Value.slice pK (nf k) cK).ownBlock <;> simp)
        have hnl : nf k ≤ 16 := by omega
        have HE1 := hide' hn1
        have HE2 := hide' hn2
        have hls := (HAll.out k hkn).1
        generalize (l[k]).1 = xs at *
        generalize hnk : xs.length = nk at *
        generalize hnj : nf k = nj at *
        have hcu' := q0'
        clear hR hbel hBa hn1 hn2 hn3 hpe hp hat hT hT' hbw q0 q6 q0' hbox hnj
        go_wp2_with (at_builtin; first
        | (refine wpList_append_seg rfl (.tmp 22) (.tmp 28) (by rfl) wr.heap.size (.slice (some ⟨wr.heap.size, 0, none⟩) 0 0) [] xs (by rfl) hE na nk np hnk.symm (by rfl) hsu' hnu (by simp; omega) (by simp) ?_; intro v5 w5 hv5 hg5; rw [List.nil_append] at hv5; have hb5 := hide' (hBe.out.grown hg5 (by simp) (by intro j hj; simp [Value.ownBlock] at hj; omega)); obtain ⟨a5, c5, h5, _⟩ := hv5.shape; rw [hnk] at h5; subst h5; replace hv5 := hide' hv5; clear hg5 hE hsu')
        | (refine wpList_append_lies _ rfl (.tmp 21) (.tmp 30) 27 (by rfl) w1.heap.size 22 iT (.slice none 0 0) 1 24 Tryz.underlying27 hiT hy0 hy1 hy2 rfl (by decide) (.slice pK nj cK) nj cs.flatten (by rfl) ((Hv.out w5 hb5.out).alloc _) ⟨w5.heap.size, 0, none⟩ 1 1 [.slice a5 nk c5] (by rfl) (by rfl) (World.news_of_block (cs := #[.slice a5 nk c5]) (t := 22) (fr := (0, 0)) (heap_alloc_new w5 _)) (by simp [Value.oneCell']) (by omega) (by unfold maxLen; omega) (by omega) (by have := hb5.out.size; simp; omega) (w5.heap.size + 1) (by simp) ?_; intro g6 cp6 w6 hown6 hg6 hat6 hlt6; obtain ⟨cs', Bi', hR6, hB6⟩ := rwk_step HR.out.1 HR.out.2 hb5.out (by rw [HE2.out]; exact hv5.out) hown6 hg6 hat6; replace hR6 := hide' hR6; replace hB6 := hide' hB6; clear hown6 hg6 hat6 hlt6))
        go_wp2
        go_roundw
        case rel => exact ⟨k + 1, by omega, by go_num, _, _, by rw [HE1.out]; exact hR6.out, hB6.out⟩
        case measure => simp [intOf]; omega
    · have hkn' : k = l.length := by omega
      subst hkn'
      have hkl' : ¬ (l.length : Int) < (l.length : Int) := by omega
      rw [HFe.out] at hR
      have HR := hide' (And.intro hR hbel)
      clear hR hbel hbox
      go_wp2_with fail
      go_ret
      have hbd := HR.out.1.2.2.2.2.2
      have hz1 := HB1.out.size
      exact HEnd.out _ _ _ _ rfl HR.out.1.kown (fun b hb => by have := hbd b hb; omega) (Below.on HB1.out HR.out.2)
end Go.Proofs.YtngjhimieacjhaaGreatDoor
/-
  Needs of the specification.
-/
namespace Go.Proofs.YtngjhimieacjhaaGreatDoor
open Go.RowKit
set_option linter.unusedVariables false
set_option linter.unusedSimpArgs false

/-- Whether a text is among the first j. -/
def inT (ks : List (List Int)) (x : List Int) (j : Nat) : Nat := if x ∈ ks.take j then 1 else 0
theorem inT_zero (ks : List (List Int)) (x : List Int) : inT ks x 0 = 0 := by simp [inT]
theorem inT_end (ks : List (List Int)) (x : List Int) : inT ks x ks.length = if x ∈ ks then 1 else 0 := by simp [inT]
theorem take_mem {ks : List (List Int)} {x : List Int} {j : Nat} : x ∈ ks.take j ↔ ∃ i, i < j ∧ i < ks.length ∧ ks.getD i [] = x := by
  constructor
  · intro h
    obtain ⟨i, hi, rfl⟩ := List.getElem_of_mem h
    rw [List.length_take] at hi
    refine ⟨i, by omega, by omega, ?_⟩
    rw [List.getD_eq_getElem?_getD, List.getElem?_eq_getElem (by omega)]
    simp
  · rintro ⟨i, h1, h2, rfl⟩
    rw [List.getD_eq_getElem?_getD, List.getElem?_eq_getElem h2]
    exact List.mem_iff_getElem.2 ⟨i, by rw [List.length_take]; omega, by simp⟩
theorem inT_hit {ks : List (List Int)} {x : List Int} {j : Nat} (hd : ∀ a b, a < ks.length → b < ks.length → ks.getD a [] = ks.getD b [] → a = b) (hj : j < ks.length) (e : ks.getD j [] = x) : inT ks x j = 0 ∧ inT ks x (j + 1) = 1 := by
  constructor
  · unfold inT
    rw [if_neg]
    rw [take_mem]
    rintro ⟨i, h1, h2, h3⟩
    have := hd i j h2 hj (h3.trans e.symm)
    omega
  · unfold inT
    rw [if_pos]
    rw [take_mem]
    exact ⟨j, by omega, hj, e⟩
theorem inT_miss {ks : List (List Int)} {x : List Int} {j : Nat} (e : ks.getD j [] ≠ x) : inT ks x (j + 1) = inT ks x j := by
  unfold inT
  by_cases h : x ∈ ks.take j
  · rw [if_pos h, if_pos]
    rw [take_mem] at h ⊢
    obtain ⟨i, h1, h2, h3⟩ := h
    exact ⟨i, by omega, h2, h3⟩
  · rw [if_neg h, if_neg]
    rw [take_mem] at h ⊢
    rintro ⟨i, h1, h2, h3⟩
    by_cases hij : i = j
    · subst hij; exact e h3
    · exact h ⟨i, by omega, h2, h3⟩
theorem inT_le (ks : List (List Int)) (x : List Int) (j : Nat) : inT ks x j ≤ 1 := by unfold inT; split <;> omega
theorem nds_step {d : Nat} {l : List (Ntr d)} {x : List Int} {k : Nat} (hk : k < l.length) : cntF l (ndsP d x) (k + 1) = cntF l (ndsP d x) k + inT (l[k]).2.2.1 x (l[k]).2.2.1.length := by
  rw [inT_end]
  by_cases h : x ∈ (l[k]).2.2.1
  · rw [if_pos h, cntF_yes hk (by unfold ndsP; exact decide_eq_true h)]
  · rw [if_neg h, cntF_no hk (by unfold ndsP; exact decide_eq_false h), Nat.add_zero]

set_option maxHeartbeats 6400000 in
set_option maxRecDepth 100000 in
theorem spec_Needs_any (D N : Nat) (cs : List Value) (s : Stt (D + 1)) (xa : Option Addr) (xc : Nat) (xs : List Int) (w : World) (hx : SaSg (fun b => b < N) w (D + 1) cs s) (hN : N ≤ w.heap.size) (hz : SaSz (D + 1) s) (hX : TSeg (fun b => b < N) w (.slice xa xs.length xc) xs) (hxl : xs.length ≤ 1048576) :
    Calls Tryz.prog 7 #[.agg cs.toArray, .slice xa xs.length xc] w (KEnd (selA (D + 1) s (ndsP (D + 1) xs)) w) := by
  have hA : ∀ wx, Below w.heap.size w wx → Agree (fun b => b < N) w wx := fun wx hb => agree_below (hb.mono hN)
  obtain ⟨iT, hiT, hy0, hy1, hy2⟩ := info_parts infoT
  have HA1 : Hid (∀ o : Obj, Below w.heap.size w (w.alloc o)) := fun o => (Below.refl _ _).alloc (Nat.le_refl _) o
  have HBx : Hid (∀ (o : Obj) wx, Below (w.alloc o).heap.size (w.alloc o) wx → wx.heap[w.heap.size]? = some o) := fun o wx h => box_row h
  have HNo : Hid (staB (D + 1) s = false → selA (D + 1) s (ndsP (D + 1) xs) = []) := fun h => by unfold selA; rw [h]; simp
  have HSt : Hid (∀ wx, Below w.heap.size w wx → Calls Tryz.prog 24 #[.agg cs.toArray] wx fun e w' => e = .returned (.bool (staB (D + 1) s)) ∧ Below wx.heap.size wx w') := fun wx hb => spec_StateOk_any (D + 1) N cs s wx (hx.agree (hA wx hb)) (by have := hb.size; omega)
  have HXs : Hid (∀ wx, Below w.heap.size w wx → Seg wx xa xs) := fun wx hb => (tseg_in (hX.agree (hA wx hb)) (by have := hb.size; omega)).1
  obtain ⟨pa, pc, ea, ec, rfl, -, he⟩ := hx.form
  have HAt : Hid (∀ k (hk : k < s.2.2.2.2.length), ∃ kb ko na np xa xp, ea = some ⟨kb, ko, none⟩ ∧ ∀ wx, Below w.heap.size w wx → wx.cell? ⟨kb, ko + k * 9, none⟩ = some (.slice na (s.2.2.2.2[k]).1.length np) ∧ wx.cell? ⟨kb, ko + k * 9 + 6, none⟩ = some (.slice xa (s.2.2.2.2[k]).2.2.1.length xp) ∧ wx.cell? ⟨kb, ko + k * 9 + 7, none⟩ = some (.bool (s.2.2.2.2[k]).2.2.2.1) ∧ TSeg (fun b => b < N) wx (.slice na (s.2.2.2.2[k]).1.length np) (s.2.2.2.2[k]).1 ∧ KSeg (fun b => b < N) wx (.slice xa (s.2.2.2.2[k]).2.2.1.length xp) (s.2.2.2.2[k]).2.2.1) := fun k hk => nt_at he hN hk
  have HYs : Hid (staB (D + 1) s = true → selA (D + 1) s (ndsP (D + 1) xs) = fltA s.2.2.2.2 (ndsP (D + 1) xs) ∧ s.2.2.2.2.length ≤ 16 ∧ ∀ i (h : i < s.2.2.2.2.length), (s.2.2.2.2[i]).1.length ≤ 60 ∧ (s.2.2.2.2[i]).2.2.1.length ≤ 8 ∧ ∀ a b, a < (s.2.2.2.2[i]).2.2.1.length → b < (s.2.2.2.2[i]).2.2.1.length → (s.2.2.2.2[i]).2.2.1.getD a [] = (s.2.2.2.2[i]).2.2.1.getD b [] → a = b) := fun h => ⟨by unfold selA; rw [h]; simp, staB_len h, fun i hi => ⟨staB_short h hi, (entB_deps (staB_ent h hi)).1, fun a b ha hb e => up_inj (entB_deps (staB_ent h hi)).2 ha hb e⟩⟩
  have HNN := hide' hN
  have HEnd : Hid (∀ u e B w', e = .returned u → KOwn w' u (selA (D + 1) s (ndsP (D + 1) xs)) B → (∀ b ∈ B, w.heap.size ≤ b ∧ b < w'.heap.size) → Below w.heap.size w w' → KEnd (selA (D + 1) s (ndsP (D + 1) xs)) w e w') := fun u e B w' h1 h2 h3 h4 => ⟨u, h1, B, h2, h3, h4⟩
  have HNil : Hid (∀ w', staB (D + 1) s = false → Below w.heap.size w w' → KEnd (selA (D + 1) s (ndsP (D + 1) xs)) w (.returned (.slice none 0 0)) w') := fun w' h1 h2 => by rw [HNo.out h1]; exact kEnd_nil _ _ h2
  have hcm : s.2.2.2.2.length ≤ 1048576 := hz.2.1
  obtain ⟨s0, s1, nm, s3, l⟩ := s
  simp only at HSt HAt HYs HEnd HNil hcm ⊢
  clear hx he hz hA HNo hN hX
  generalize selA (D + 1) (s0, s1, nm, s3, l) (ndsP (D + 1) xs) = A0 at *
  generalize staB (D + 1) (s0, s1, nm, s3, l) = sb at *
  generalize nm.length = pl at *
  show Calls _ _ _ _ fun e w' => KEnd A0 w e w'
  go_enter Tryz.func7, Tryz.ntmps7
  go_wp2_with fail
  refine (HSt.out _ (HA1.out _)).mono ?_
  rintro e w1 ⟨rfl, b1⟩
  have HR1 := hide' (HBx.out _ _ b1)
  have HB1 := hide' (Below.on (HA1.out _) b1)
  clear b1 HSt HBx
  cases sb with
  | false =>
    have HB := hide' (HNil.out w1 rfl HB1.out)
    clear HNil HEnd
    go_wp2
    go_ret
    exact HB.out
  | true =>
  obtain ⟨eA, hl16, hall⟩ := HYs.out rfl
  have HAll := hide' hall
  have HFy : Hid (∀ k (hk : k < l.length), (ndsP (D + 1) xs) l[k] = true → cntF l (ndsP (D + 1) xs) (k + 1) = cntF l (ndsP (D + 1) xs) k + 1 ∧ A0.getD (cntF l (ndsP (D + 1) xs) k) [] = (l[k]).1 ∧ cntF l (ndsP (D + 1) xs) k < A0.length) := fun k hk h => by rw [eA]; exact ⟨cntF_yes hk h, fltA_at hk h, cntF_lt hk h⟩
  have HFn : Hid (∀ k (hk : k < l.length), (ndsP (D + 1) xs) l[k] = false → cntF l (ndsP (D + 1) xs) (k + 1) = cntF l (ndsP (D + 1) xs) k) := fun k hk h => cntF_no hk h
  have HFe : Hid (cntF l (ndsP (D + 1) xs) l.length = A0.length) := by rw [eA]; exact cntF_end
  have hfl : A0.length ≤ 16 := by rw [eA]; exact Nat.le_trans fltA_len hl16
  have hc0 : cntF l (ndsP (D + 1) xs) 0 = 0 := cntF_zero
  have HSt : Hid (∀ k (hk : k < l.length), cntF l (ndsP (D + 1) xs) (k + 1) = cntF l (ndsP (D + 1) xs) k + inT (l[k]).2.2.1 xs (l[k]).2.2.1.length) := fun k hk => nds_step hk
  have HHit : Hid (∀ k (hk : k < l.length) j, j < (l[k]).2.2.1.length → (l[k]).2.2.1.getD j [] = xs → inT (l[k]).2.2.1 xs j = 0 ∧ inT (l[k]).2.2.1 xs (j + 1) = 1 ∧ A0.getD (cntF l (ndsP (D + 1) xs) k) [] = (l[k]).1 ∧ cntF l (ndsP (D + 1) xs) k < A0.length) := fun k hk j hj e => by
    have h1 := inT_hit (hall k hk).2.2 hj e
    have h2 : ndsP (D + 1) xs l[k] = true := by
      unfold ndsP
      refine decide_eq_true ?_
      rw [← e, List.getD_eq_getElem?_getD, List.getElem?_eq_getElem hj]
      exact List.getElem_mem _
    exact ⟨h1.1, h1.2, (HFy.out k hk h2).2⟩
  generalize cntF l (ndsP (D + 1) xs) = nf at *
  clear HYs eA hall HNil HFy HFn
  have hxlm : xs.length ≤ 9223372036854775807 := by omega
  go_wp2_with fail
  go_loopw [5, 6] (fun x i wr => ∃ k : Nat, k ≤ l.length ∧ i = .int .i64 k ∧ ∃ cs Bi, RW 22 1 (ItK A0) wr w1.heap.size x (nf k) cs Bi ∧ Below w1.heap.size w1 wr) (fun _ i _ => l.length - (intOf i).toNat)
  case atStart => exact ⟨0, Nat.zero_le _, rfl, _, _, by rw [hc0]; exact RW.nil _ _ _ _ _, Below.refl _ _⟩
  case round =>
    obtain ⟨k, hk, rfl, cs0, Bi0, hR0, hbel0⟩ := hrel
    obtain ⟨f0, f1, f2, f3, f4⟩ := five_row (row_on HR1.out hbel0)
    by_cases hkn : k < l.length
    · have hkn' : (k : Int) < (l.length : Int) := by omega
      have hk0 : (0 : Int) ≤ (k : Int) := Int.natCast_nonneg _
      obtain ⟨kb, ko, na, np, da, dp, rfl, hat⟩ := HAt.out k hkn
      have Hat := hide' hat
      have HHk := hide' (HHit.out k hkn)
      have HSk := hide' (HSt.out k hkn)
      obtain ⟨hls, hds, -⟩ := HAll.out k hkn
      have HM : Hid (∀ j, (l[k]).2.2.1.getD j [] ≠ xs → inT (l[k]).2.2.1 xs (j + 1) = inT (l[k]).2.2.1 xs j) := fun j e => inT_miss e
      have HLe : Hid (∀ j, inT (l[k]).2.2.1 xs j ≤ 1) := fun j => inT_le _ _ _
      have HR0 := hide' (And.intro hR0 hbel0)
      have hi0 := inT_zero (l[k]).2.2.1 xs
      generalize hds' : (l[k]).2.2.1 = ds at *
      generalize hxn : (l[k]).1 = an at *
      generalize inT ds xs = iT' at *
      obtain ⟨w2, hw2⟩ : ∃ w2, w2 = wr := ⟨_, rfl⟩
      subst hw2
      clear hR0 hbel0 hat hxn hds'
      go_wp2_with fail
      go_loopw [5, 7] (fun x i wr => ∃ j : Nat, j ≤ ds.length ∧ i = .int .i64 j ∧ ∃ cs Bi, RW 22 1 (ItK A0) wr w1.heap.size x (nf k + iT' j) cs Bi ∧ Below w1.heap.size w1 wr) (fun _ i _ => ds.length - (intOf i).toNat)
      case atStart => exact ⟨0, Nat.zero_le _, rfl, _, _, by rw [hi0]; exact HR0.out.1, HR0.out.2⟩
      case round =>
        clear HR0 f0 f1 f2 f3 f4
        obtain ⟨j, hj, rfl, cs, Bi, hR, hbel⟩ := hrel
        have hsz := hbel.size
        have hbox := row_on HR1.out hbel
        obtain ⟨f0, f1, f2, f3, f4⟩ := five_row hbox
        have hbw : Below w.heap.size w wr := Below.on HB1.out hbel
        obtain ⟨q0, q6, q7, hT, hK⟩ := Hat.out wr hbw
        by_cases hjn : j < ds.length
        · have hjn' : (j : Int) < (ds.length : Int) := by omega
          have hj0 : (0 : Int) ≤ (j : Int) := Int.natCast_nonneg _
          obtain ⟨g, off, rfl, ua0, uc0, hcu0, hT0⟩ := kseg_at hK hjn
          have hNw : N ≤ wr.heap.size := by have := HNN.out; have := hbw.size; omega
          obtain ⟨hsg0, hnm0, -, hsb0⟩ := tseg_in hT0 hNw
          have hxg := HXs.out wr hbw
          have hcv2 : ∀ n, (convert 22 9 (.slice ua0 (ds.getD j []).length uc0)).run Tryz.prog (wr.drewN n) = .ok (.string (strOf (ds.getD j []))) (wr.drewN n) := fun n => conv_seg (w := wr.drewN n) uc0 hsg0
          have hcv3 : ∀ n, (convert 22 9 (.slice xa xs.length xc)).run Tryz.prog (wr.drewN n) = .ok (.string (strOf xs)) (wr.drewN n) := fun n => conv_seg (w := wr.drewN n) xc hxg
          have hEq := strOf_eq hsg0.1 hxg.1
          have HDr : Hid (∀ n, ∃ W, wr.drewN n = W ∧ Below wr.heap.size wr W) := fun n => ⟨_, rfl, below_drewN (Below.refl _ _) n⟩
          by_cases he : ds.getD j [] = xs
          · obtain ⟨e1, e2, e3, e4⟩ := HHk.out j hjn he
            rw [decide_eq_true he] at hEq
            rw [e1, Nat.add_zero] at hR
            have hvK : ∃ q c, u5 = .slice q (nf k) c := by
              rcases hR.2.2.1.2 with ⟨rfl, h0⟩ | ⟨g, cap, cur, rfl, _⟩
              · exact ⟨none, 0, by rw [h0]⟩
              · exact ⟨_, _, rfl⟩
            obtain ⟨pK, cK, rfl⟩ := hvK
            have HE1 : Hid (nf k + iT' (j + 1) = nf k + 1) := by show _ = _; rw [e2]
            have HE2 := hide' e3
            have hnl : nf k ≤ 16 := by omega
            have HR00 := hide' (And.intro hR hbel)
            generalize hnj : nf k = nj at *
            generalize ds.getD j [] = xs0 at *
            clear hR hbel e1 e2 e3 e4 he hT hK hT0 hsg0 hxg q0 q7 hbox hsb0 HHk HM HLe hnj hsz
            go_wp2_with fail
            go_quiet (fail)
            obtain ⟨W, hW, hBW⟩ := HDr.out nq
            rw [hW]
            clear hcv2 hcv3 hcu0 hW HDr f0 f1 f2 f3 f4 q6
            have hbW1 : Below w1.heap.size w1 W := Below.on HR00.out.2 hBW
            have hboxW := row_on HR1.out hbW1
            have hbwW : Below w.heap.size w W := Below.on HB1.out hbW1
            have hRW : RW 22 1 (ItK A0) W w1.heap.size (.slice pK nj cK) nj cs Bi := HR00.out.1.agree (ItK.agree A0) (fun b hb => hBW.block b (HR00.out.1.2.2.2.2.2 b hb).2) hBW.size
            have hszW := hbW1.size
            clear HR00 hBW hbw
            obtain ⟨wr, hwr⟩ : ∃ wr, wr = W := ⟨_, rfl⟩
            subst hwr
            obtain ⟨f0, f1, f2, f3, f4⟩ := five_row hboxW
            have hBa : Below wr.heap.size wr (wr.alloc (.cells #[] 5)) := (Below.refl _ _).alloc (Nat.le_refl _) _
            obtain ⟨_, _, _, _, f4'⟩ := five_row (row_on hboxW hBa)
            obtain ⟨hcu', _, _, hT', _⟩ := Hat.out _ (Below.on hbwW hBa)
            obtain ⟨hsu', hnu, -, -⟩ := tseg_in hT' (by have := HNN.out; have := hbwW.size; simp; omega)
            have hE : Bts (wr.alloc (.cells #[] 5)) wr.heap.size (.slice (some ⟨wr.heap.size, 0, none⟩) 0 0) [] := ⟨by simp, by simp [cellsOf], .inr ⟨wr.heap.size, 0, #[], rfl, Nat.le_refl _, heap_alloc_new wr _, Nat.le_refl _, Nat.zero_le _, rfl, rfl⟩⟩
            have HR := hide' (And.intro hRW hbW1)
            have hBe : Hid (Below wr.heap.size wr (wr.alloc (.cells #[] 5))) := hBa
            have Hv : Hid (∀ w5, Below wr.heap.size wr w5 → w5.ownsRow w1.heap.size 22 1 (.slice pK nj cK) nj cs.flatten) := fun w5 hb5 => hRW.2.2.1.kept (row := none) ⟨hb5.os, hb5.tape, hb5.output, hb5.size, fun k hk _ => hb5.block k hk⟩ (by cases hv : (Value.slice pK nj cK).ownBlock <;> simp)
            generalize hnk : an.length = nk at *
            clear hRW hbW1 hBa hT' hbwW hboxW
            go_wp2_with (at_builtin; first
        | (refine wpList_append_seg rfl (.tmp 43) (.tmp 49) (by rfl) wr.heap.size (.slice (some ⟨wr.heap.size, 0, none⟩) 0 0) [] an (by rfl) hE na nk np hnk.symm (by rfl) hsu' hnu (by simp; omega) (by simp) ?_; intro v5 w5 hv5 hg5; rw [List.nil_append] at hv5; have hb5 := hide' (hBe.out.grown hg5 (by simp) (by intro j hj; simp [Value.ownBlock] at hj; omega)); obtain ⟨a5, c5, h5, _⟩ := hv5.shape; rw [hnk] at h5; subst h5; replace hv5 := hide' hv5; clear hg5 hE hsu')
        | (refine wpList_append_lies _ rfl (.tmp 42) (.tmp 51) 27 (by rfl) w1.heap.size 22 iT (.slice none 0 0) 1 24 Tryz.underlying27 hiT hy0 hy1 hy2 rfl (by decide) (.slice pK nj cK) nj cs.flatten (by rfl) ((Hv.out w5 hb5.out).alloc _) ⟨w5.heap.size, 0, none⟩ 1 1 [.slice a5 nk c5] (by rfl) (by rfl) (World.news_of_block (cs := #[.slice a5 nk c5]) (t := 22) (fr := (0, 0)) (heap_alloc_new w5 _)) (by simp [Value.oneCell']) (by omega) (by unfold maxLen; omega) (by omega) (by have := hb5.out.size; simp; omega) (w5.heap.size + 1) (by simp) ?_; intro g6 cp6 w6 hown6 hg6 hat6 hlt6; obtain ⟨cs', Bi', hR6, hB6⟩ := rwk_step HR.out.1 HR.out.2 hb5.out (by rw [HE2.out]; exact hv5.out) hown6 hg6 hat6; replace hR6 := hide' hR6; replace hB6 := hide' hB6; clear hown6 hg6 hat6 hlt6))
            go_wp2
            go_roundw
            case rel => exact ⟨j + 1, by omega, by go_num, _, _, by rw [HE1.out]; exact hR6.out, hB6.out⟩
            case measure => simp [intOf]; omega
          · have hm := HM.out j he
            rw [decide_eq_false he] at hEq
            have HN : Hid (∀ W, Below wr.heap.size wr W → RW 22 1 (ItK A0) W w1.heap.size u5 (nf k + iT' (j + 1)) cs Bi ∧ Below w1.heap.size w1 W) := fun W hBW => ⟨by rw [hm]; exact hR.agree (ItK.agree A0) (fun b hb => hBW.block b (hR.2.2.2.2.2 b hb).2) hBW.size, Below.on hbel hBW⟩
            generalize ds.getD j [] = xs0 at *
            clear hR hbel hm he hT hK hT0 hsg0 hxg q0 hbox hsb0 HHk HM HLe
            go_wp2_with fail
            go_quiet (fail)
            obtain ⟨W, hW, hBW⟩ := HDr.out nq
            rw [hW]
            have HN' := hide' (HN.out W hBW)
            clear hcv2 hcv3 hcu0 hW HDr hBW HN
            go_wp2
            go_roundw
            case rel => exact ⟨j + 1, by omega, by go_num, _, _, HN'.out.1, HN'.out.2⟩
            case measure => simp [intOf]; omega
        · have hjn' : j = ds.length := by omega
          subst hjn'
          have hkl' : ¬ (ds.length : Int) < (ds.length : Int) := by omega
          rw [← HSk.out] at hR
          have HR := hide' (And.intro hR hbel)
          clear hR hbel hbox hT hK q0 q7 hbw
          go_wp2
          go_roundw
          case rel => exact ⟨k + 1, by omega, by go_num, _, _, HR.out.1, HR.out.2⟩
          case measure => simp [intOf]; omega
    · have hkn' : k = l.length := by omega
      subst hkn'
      have hkl' : ¬ (l.length : Int) < (l.length : Int) := by omega
      rw [HFe.out] at hR0
      have HR := hide' (And.intro hR0 hbel0)
      clear hR0 hbel0
      go_wp2_with fail
      go_ret
      have hbd := HR.out.1.2.2.2.2.2
      have hz1 := HB1.out.size
      exact HEnd.out _ _ _ _ rfl HR.out.1.kown (fun b hb => by have := hbd b hb; omega) (Below.on HB1.out HR.out.2)
end Go.Proofs.YtngjhimieacjhaaGreatDoor
