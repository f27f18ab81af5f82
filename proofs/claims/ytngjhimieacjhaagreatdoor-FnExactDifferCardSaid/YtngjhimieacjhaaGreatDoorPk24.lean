/-
  Texts that a law leans on, one behind the other; no statement is proved here.
-/
import Derived.Test.YtngjhimieacjhaaGreatDoorPk23
import Derived.Test.YtngjhimieacjhaaGreatDoorPk6
import Derived.Test.YtngjhimieacjhaaGreatDoorPk7
/-
  worldOf, StateOk of the program.
-/
namespace Go.Proofs.YtngjhimieacjhaaGreatDoor
open Go.RowKit
set_option linter.unusedVariables false
set_option linter.unusedSimpArgs false

theorem row_shape {w : World} {base : Nat} {e : TypeId} {y : Value} {n : Nat} {vs : List Value} (h : w.ownsRow base e 1 y n vs) : ∃ ya yc, y = .slice ya n yc := by
  rcases h.2 with ⟨rfl, h0⟩ | ⟨g, cap, cur, rfl, _⟩
  · exact ⟨none, 0, by rw [h0]⟩
  · exact ⟨_, _, rfl⟩

/-- At the end of the row: the answers of the two that are asked then. -/
theorem wld_asc {d N : Nat} {w wr : World} {l : List (Ntr d)} {s0 : Int} {s1 : Bool} {nm : List Int} {s3 : Int} {ob : Obj} {y : Value} {ps : List Value} (h : WLp d N w l s0 s1 nm s3 ob l.length l.length y ps wr) (hN : N ≤ w.heap.size) (hlen : l.length ≤ 16) (hz : ∀ i (h : i < l.length), NtSz d l[i]) (hEr : Errs w) (hby : ∀ x ∈ nm, Byt x) (hln : nm.length ≤ 1048576) :
    (Calls Tryz.prog 47 #[y] wr fun e w' => e = .returned (.bool (ascA (adrL l))) ∧ Below wr.heap.size wr w') ∧ (ascA (adrL l) = true → ∀ wx, Below wr.heap.size wr wx → (Calls Tryz.prog 48 #[.pointer (some ⟨w.heap.size + 2, 0, none⟩)] wx fun e w' => e = .returned (.bool (pendB s1 nm s3 (hasA (adrL l) nm))) ∧ Below wx.heap.size wx w') ∧ Wld d (s0, s1, nm, s3, l) w.heap.size (w.heap.size + 2) (w.heap.size + 1) ps wx) := by
  have hK := wlp_keys h hN
  have hadr : ∀ i (hi : i < l.length), (adrL l).getD i [] = (l[i]).1 := fun i hi => adrL_at l hi
  obtain ⟨vs, hr, hvl, hvt⟩ := h.row
  have hbyt : ∀ i, i < (adrL l).length → ∀ x ∈ (adrL l).getD i [], Byt x := fun i hi => by
    rw [adrL_len] at hi
    rw [hadr i hi]
    obtain ⟨_, _, _, hs, _⟩ := hvt i hi hi
    exact hs.1
  refine ⟨ascendingAddrs_any wr.heap.size y (adrL l) wr hK (Nat.le_refl _) (fun i hi => ?_) (hEr.grow h.bel), fun hasc wx hb => ?_⟩
  · rw [adrL_len] at hi
    rw [hadr i hi]
    exact (hz i hi).1
  have hup : ∀ i, i < (adrL l).length → upB (adrL l) i = true := fun i hi => by
    have h1 : stepA (adrL l) i = true := by
      unfold ascA at hasc
      exact List.all_eq_true.1 hasc i (List.mem_range.2 hi)
    unfold stepA at h1
    rw [Bool.and_eq_true] at h1
    exact h1.2
  have hW : ∀ wx, Below wr.heap.size wr wx → Wld d (s0, s1, nm, s3, l) w.heap.size (w.heap.size + 2) (w.heap.size + 1) ps wx := fun wx hb => by
    have hsz := h.siz
    have hz2 := hb.size
    refine ⟨(hb.block _ (by omega)).trans h.wbx, (h.own.kept (below_grows hb none) (by simp)).mono (by show l.length ≤ 64; omega), fun i hi => (h.held i hi hi).carry (Nat.le_refl _) (fun q hq => ⟨hq.1, by omega⟩) (fun q hq => hb.block q hq.2.1), by omega, by omega⟩
  refine ⟨?_, hW wx hb⟩
  refine pendingOk_any (hasA (adrL l) nm) (hW wx hb).1 hby hln ((hEr.grow h.bel).grow hb) (fun _ wz hz' => ?_)
  have hWz := hW wz (Below.on hb hz')
  obtain ⟨p, hrun, hp⟩ := look_held (ks := adrL l) (ps := ps) (key := nm) (by rw [adrL_len]; exact hWz.2.1) hup hbyt hby (by unfold maxLen; omega)
  have hsh : ∃ p0 p1 p2 p3, p = .agg #[p0, p1, p2, p3] ∧ ∃ m a n c t u, p0 = .map m ∧ p1 = .slice a n c ∧ p2 = .bool t ∧ p3 = .int .i64 u := by
    rcases hp with ⟨_, rfl⟩ | ⟨k, hk, _, _, rfl⟩
    · exact ⟨_, _, _, _, rfl, _, _, _, _, _, _, rfl, rfl, rfl, rfl⟩
    · rw [adrL_len] at hk
      obtain ⟨m, a, n, c, e, _⟩ := hWz.2.2.1 k hk
      exact ⟨_, _, _, _, e, _, _, _, _, _, _, rfl, rfl, rfl, rfl⟩
  obtain ⟨p0, p1, p2, p3, rfl, hs⟩ := hsh
  exact has_any hWz.1 hs hrun

theorem wlp_start {d N : Nat} {w : World} {l : List (Ntr d)} {s0 : Int} {s1 : Bool} {nm : List Int} {s3 : Int} {cs : Array Value} :
    WLp d N w l s0 s1 nm s3 (.cells cs 31) 0 0 (.slice none 0 0) [] (((w.alloc (.cells cs 31)).alloc (.map #[] 0)).alloc (.cells #[.int .i64 s0, .bool s1, .string (strOf nm), .int .i64 s3, .map (some (w.heap.size + 1))] 73)) := by
  refine ⟨?_, ?_, ?_, rfl, ⟨[], ⟨rfl, .inl ⟨rfl, rfl⟩⟩, rfl, fun i _ h => by omega⟩, fun i _ h => by omega, (((Below.refl _ _).alloc (Nat.le_refl _) _).alloc (by simp) _).alloc (by simp; omega) _, by simp⟩
  · rw [Below.heap_alloc _ _ _ (by simp; omega), Below.heap_alloc _ _ _ (by simp)]
    exact (MapKept.heap_alloc w _).1
  · have := (MapKept.heap_alloc ((w.alloc (.cells cs 31)).alloc (.map #[] 0)) (.cells #[.int .i64 s0, .bool s1, .string (strOf nm), .int .i64 s3, .map (some (w.heap.size + 1))] 73)).1
    rw [World.size_alloc, World.size_alloc] at this
    exact this
  · have := (World.ownsMap_made (w.alloc (.cells cs 31)) Tryz.prog 9 tokR).alloc (.cells #[.int .i64 s0, .bool s1, .string (strOf nm), .int .i64 s3, .map (some (w.heap.size + 1))] 73)
    rw [World.size_alloc] at this
    exact this

set_option maxHeartbeats 12800000 in
set_option maxRecDepth 100000 in
theorem worldOf_any (d N : Nat) (cs : List Value) (s : Stt d) (w : World) (hx : SaSg (fun b => b < N) w d cs s) (hN : N ≤ w.heap.size) (hz : SaSz d s) (hEr : Errs w) :
    Calls Tryz.prog 26 #[.agg cs.toArray] w (WldEnd d s w) := by
  obtain ⟨pa, pc, ea, ec, rfl, ht, he⟩ := hx.form
  have hsd : ∃ s', s' = s := ⟨_, rfl⟩
  obtain ⟨s', hs'⟩ := hsd
  obtain ⟨s0, s1, nm, s3, l⟩ := s
  obtain ⟨z0, z1, z2⟩ := hz
  simp only at ht he z0 z1 z2 ⊢
  have HNs := hide' hN
  have HZ := hide' z2
  have HZ0 := hide' z0
  have HEr := hide' hEr
  have hpby : ∀ x ∈ nm, Byt x := by obtain ⟨_, _, _, hsg, _⟩ := ht; exact hsg.1
  have HPby := hide' hpby
  have HCvP : Hid (∀ wx, Below w.heap.size w wx → (convert 22 9 (.slice pa nm.length pc)).run Tryz.prog wx = .ok (.string (strOf nm)) wx) := fun wx hb => by
    obtain ⟨na', np', e1, hsa, _⟩ := ht.agree (agree_below (hb.mono hN))
    simp only [Value.slice.injEq, true_and] at e1
    obtain ⟨rfl, rfl⟩ := e1
    exact conv_seg _ hsa
  have HL : Hid (∀ wx, Below w.heap.size w wx → NtLS (fun b => b < N) wx d (.slice ea l.length ec) l) := fun wx hb => he.agree (agree_below (hb.mono hN))
  have HLw : Hid (NtLS (fun b => b < N) w d (.slice ea l.length ec) l) := he
  have HSta : Hid (staB d (s0, s1, nm, s3, l) = ((decide (0 ≤ s0) && (decide (s0 ≤ 1000000) && decide (l.length ≤ 16))) && (pendB s1 nm s3 (hasA (adrL l) nm) && (ascA (adrL l) && l.all (entB d s0))))) := rfl
  have HAll : Hid ((∀ i (h : i < l.length), entB d s0 l[i] = true) → l.all (entB d s0) = true) := fun h => by
    rw [List.all_eq_true]
    intro x hx
    obtain ⟨i, hi, rfl⟩ := List.getElem_of_mem hx
    exact h i hi
  have HNo0 : Hid (∀ k (hk : k < l.length), entB d s0 l[k] = false → staB d (s0, s1, nm, s3, l) = false) := fun k hk h => by
    have h2 := rest_no (d := d) (ser := s0) hk (.inr h)
    rw [HSta.out, h2]
    simp
  have hcm : l.length ≤ 1048576 := z1
  have hpm : nm.length ≤ 1048576 := z0
  have HA1 : Hid (∀ o : Obj, Below w.heap.size w (w.alloc o)) := fun o => (Below.refl _ _).alloc (Nat.le_refl _) o
  have HEnd : Hid (∀ e w', WldEnd d (s0, s1, nm, s3, l) w e w' ↔ (Below w.heap.size w w' ∧ ((staB d (s0, s1, nm, s3, l) = false ∧ e = .returned (.tuple #[.pointer none, .bool false])) ∨ (staB d (s0, s1, nm, s3, l) = true ∧ ∃ wB mB ps, e = .returned (.tuple #[.pointer (some ⟨wB, 0, none⟩), .bool true]) ∧ Wld d (s0, s1, nm, s3, l) w.heap.size wB mB ps w')))) := fun e w' => Iff.rfl
  show Calls _ _ _ _ fun e w' => WldEnd d (s0, s1, nm, s3, l) w e w'
  clear hs' s' hx ht he z0 z1 z2 hEr hpby
  obtain ⟨ll, hll⟩ : ∃ ll, ll = l.length := ⟨_, rfl⟩
  have hllc : Hid (ll = l.length) := hll
  rw [← hll] at HL HSta hcm
  rw [← hll]
  clear hll
  obtain ⟨pl, hpl⟩ : ∃ pl, pl = nm.length := ⟨_, rfl⟩
  rw [← hpl] at HCvP hpm
  rw [← hpl]
  clear hpl
  show Calls _ _ _ _ fun e w' => WldEnd d (s0, s1, nm, s3, l) w e w'
  generalize hst : staB d (s0, s1, nm, s3, l) = ans at *
  clear hst
  by_cases hlo : s0 < 0
  · have HF : Hid (ans = false) := by show ans = false; rw [HSta.out, decide_eq_false (p := 0 ≤ s0) (by omega)]; rfl
    clear HSta HNo0 HAll
    go_enter Tryz.func26, Tryz.ntmps26
    go_wp2
    go_ret2
    exact (HEnd.out _ _).2 ⟨HA1.out _, .inl ⟨HF.out, rfl⟩⟩
  by_cases hhi : 1000000 < s0
  · have HF : Hid (ans = false) := by show ans = false; rw [HSta.out, decide_eq_false (p := s0 ≤ 1000000) (by omega)]; simp
    clear HSta HNo0 HAll
    go_enter Tryz.func26, Tryz.ntmps26
    go_wp2
    go_ret2
    exact (HEnd.out _ _).2 ⟨HA1.out _, .inl ⟨HF.out, rfl⟩⟩
  by_cases hmany : 16 < ll
  · have hmany' : (16 : Int) < (ll : Int) := by omega
    have HF : Hid (ans = false) := by show ans = false; rw [HSta.out, decide_eq_false (p := ll ≤ 16) (by omega)]; simp
    clear HSta HNo0 HAll
    go_enter Tryz.func26, Tryz.ntmps26
    go_wp2
    go_ret2
    exact (HEnd.out _ _).2 ⟨HA1.out _, .inl ⟨HF.out, rfl⟩⟩
  have hmany' : ¬ (16 : Int) < (ll : Int) := by omega
  have HAns : Hid (ans = (pendB s1 nm s3 (hasA (adrL l) nm) && (ascA (adrL l) && l.all (entB d s0)))) := by
    show ans = _
    rw [HSta.out, decide_eq_true (p := 0 ≤ s0) (by omega), decide_eq_true (p := s0 ≤ 1000000) (by omega), decide_eq_true (p := ll ≤ 16) (by omega)]
    rfl
  have HLt : Hid (l.length ≤ 16) := by have := hllc.out; show l.length ≤ 16; omega
  have H0 : Hid (WLp d N w l s0 s1 nm s3 (.cells #[.int .i64 s0, .bool s1, .slice pa pl pc, .int .i64 s3, .slice ea ll ec] 31) 0 0 (.slice none 0 0) [] (((w.alloc (.cells #[.int .i64 s0, .bool s1, .slice pa pl pc, .int .i64 s3, .slice ea ll ec] 31)).alloc (.map #[] 0)).alloc (.cells #[.int .i64 s0, .bool s1, .string (strOf nm), .int .i64 s3, .map (some (w.heap.size + 1))] 73))) := wlp_start
  have hcvp := HCvP.out (w.alloc (.cells #[.int .i64 s0, .bool s1, .slice pa pl pc, .int .i64 s3, .slice ea ll ec] 31)) (HA1.out _)
  have hmk : (Instr.makeMap 71 none).run Tryz.prog (w.alloc (.cells #[.int .i64 s0, .bool s1, .slice pa pl pc, .int .i64 s3, .slice ea ll ec] 31)) = .ok (.map (some (w.heap.size + 1))) ((w.alloc (.cells #[.int .i64 s0, .bool s1, .slice pa pl pc, .int .i64 s3, .slice ea ll ec] 31)).alloc (.map #[] 0)) := by
    have h : (Instr.makeMap 71 none).run Tryz.prog (w.alloc (.cells #[.int .i64 s0, .bool s1, .slice pa pl pc, .int .i64 s3, .slice ea ll ec] 31)) = .ok (.map (some (w.alloc (.cells #[.int .i64 s0, .bool s1, .slice pa pl pc, .int .i64 s3, .slice ea ll ec] 31)).heap.size)) ((w.alloc (.cells #[.int .i64 s0, .bool s1, .slice pa pl pc, .int .i64 s3, .slice ea ll ec] 31)).alloc (.map #[] 0)) := rfl
    rw [World.size_alloc] at h
    exact h
  clear HSta
  go_enter Tryz.func26, Tryz.ntmps26
  go_wp2_with fail
  clear hcvp hmk
  go_loopw [5, 39] (fun y i wr => ∃ (k : Nat) (ps : List Value), k ≤ l.length ∧ i = .int .i64 k ∧ Hid (WLp d N w l s0 s1 nm s3 (.cells #[.int .i64 s0, .bool s1, .slice pa pl pc, .int .i64 s3, .slice ea ll ec] 31) k k y ps wr) ∧ Hid (∀ j (h : j < l.length), j < k → entB d s0 l[j] = true)) (fun _ i _ => l.length - (intOf i).toNat)
  case atStart => exact ⟨0, [], Nat.zero_le _, rfl, H0, fun j _ h => by omega⟩
  case round =>
    obtain ⟨k, ps, hk, rfl, HW, HE⟩ := hrel
    clear H0
    obtain ⟨vs, hrow, hvl, hvt⟩ := HW.out.row
    obtain ⟨ya, yc, rfl⟩ := row_shape hrow
    by_cases hlt : k < l.length
    rotate_left
    · have hlt' : ¬ (k : Int) < (ll : Int) := by have := hllc.out; omega
      have hkl : k = l.length := by omega
      have hW2 : WLp d N w l s0 s1 nm s3 (.cells #[.int .i64 s0, .bool s1, .slice pa pl pc, .int .i64 s3, .slice ea ll ec] 31) l.length l.length (.slice ya k yc) ps wr := by rw [← hkl]; exact HW.out
      obtain ⟨hA, hP⟩ := wld_asc (ob := .cells #[.int .i64 s0, .bool s1, .slice pa pl pc, .int .i64 s3, .slice ea ll ec] 31) hW2 HNs.out HLt.out HZ.out HEr.out HPby.out HZ0.out
      have HAsc := hide' hA
      have HPe := hide' hP
      have HBl := hide' HW.out.bel
      rw [HAll.out fun i hi => HE.out i hi (by omega), Bool.and_true] at HAns
      generalize pendB s1 nm s3 (hasA (adrL l) nm) = pb at *
      generalize hasg : ascA (adrL l) = ab at *
      clear hasg hkl hW2 hA hP HW HE hrow hvl hvt HAll HNo0 hk hlt
      cases ab with
      | false =>
        have HF : Hid (ans = false) := by show ans = false; rw [HAns.out]; simp
        clear HPe HAns
        go_wp2_with fail
        refine HAsc.out.mono ?_
        rintro e w2 ⟨rfl, b2⟩
        have HBF := hide' (Below.on HBl.out b2)
        clear b2
        go_wp2
        go_ret2
        exact (HEnd.out _ _).2 ⟨HBF.out, .inl ⟨HF.out, rfl⟩⟩
      | true =>
        have HPe2 : Hid (∀ wx, Below wr.heap.size wr wx → (Calls Tryz.prog 48 #[.pointer (some ⟨w.heap.size + 2, 0, none⟩)] wx fun e w' => e = .returned (.bool pb) ∧ Below wx.heap.size wx w') ∧ Wld d (s0, s1, nm, s3, l) w.heap.size (w.heap.size + 2) (w.heap.size + 1) ps wx) := HPe.out rfl
        clear HPe
        go_wp2_with fail
        refine HAsc.out.mono ?_
        rintro e w2 ⟨rfl, b2⟩
        have HPw := hide' (HPe2.out w2 b2).1
        have HB2 := hide' b2
        clear b2
        cases pb with
        | false =>
          have HF : Hid (ans = false) := by show ans = false; rw [HAns.out]; rfl
          clear HAns HPe2
          go_wp2_with fail
          refine HPw.out.mono ?_
          rintro e w3 ⟨rfl, b3⟩
          have HBF := hide' (Below.on HBl.out (Below.on HB2.out b3))
          clear b3
          go_wp2
          go_ret2
          exact (HEnd.out _ _).2 ⟨HBF.out, .inl ⟨HF.out, rfl⟩⟩
        | true =>
          have HF : Hid (ans = true) := by show ans = true; rw [HAns.out]; rfl
          clear HAns
          go_wp2_with fail
          refine HPw.out.mono ?_
          rintro e w3 ⟨rfl, b3⟩
          have HBF := hide' (Below.on HBl.out (Below.on HB2.out b3))
          have HWd := hide' (HPe2.out w3 (Below.on HB2.out b3)).2
          clear b3 HPe2
          go_wp2
          go_ret2
          exact (HEnd.out _ _).2 ⟨HBF.out, .inr ⟨HF.out, _, _, ps, rfl, HWd.out⟩⟩
    have hlt' : (k : Int) < (ll : Int) := by have := hllc.out; omega
    have hk0 : (0 : Int) ≤ (k : Int) := Int.natCast_nonneg _
    obtain ⟨b, off, rfl, hbN, hat⟩ := (HL.out wr HW.out.bel).full hlt
    obtain ⟨cs, hr, hs⟩ := hat k hlt
    obtain ⟨na, np, bk, bn, a2, l2, p2, a3, l3, p3, a4, l4, p4, xa, xp, rfl, htx, hvx, hkx⟩ := hs.form
    have hszr := HW.out.bel.size
    have hsz3 := HW.out.siz
    have hN' := HNs.out
    have hA2 : ∀ wx, Below wr.heap.size wr wx → Agree (fun b => b < N) wr wx := fun wx hb => agree_below (hb.mono (by omega))
    have hTw : TSeg (fun b => b < N) w (.slice na (l[k]).1.length np) (l[k]).1 := by
      exact htx.agree (fun q hq => (HW.out.bel.block q (by have : q < N := hq; omega)).symm)
    have HTw := hide' hTw
    have hzk := HZ.out k hlt
    have hsK := keys_small hzk.2.2
    have hkz : ∀ i, i < (l[k]).2.2.1.length → ((l[k]).2.2.1.getD i []).length ≤ 1048576 := fun i hi => by
      rw [List.getD_eq_getElem?_getD, List.getElem?_eq_getElem hi]
      exact hsK.2 _ (List.getElem_mem _)
    have HHe : Hid (∀ wx, Below wr.heap.size wr wx → Calls Tryz.prog 46 #[.agg #[.int .i64 bk, .int .i64 bn, .slice a2 l2 p2, .slice a3 l3 p3, .slice a4 l4 p4], .slice xa (l[k]).2.2.1.length xp] wx (HeldEnd d (l[k]).2.1 (l[k]).2.2.1 (mapB d (l[k]).2.1 && addrsB (l[k]).2.2.1) wx)) := fun wx hb => heldOf_any d N _ _ _ _ _ _ _ _ wx (VSeg.agree (hA2 wx hb) d hvx) (hkx.agree (hA2 wx hb)) (by have := hb.size; omega) hkz ((HEr.out.grow HW.out.bel).grow hb)
    have HCv : Hid (∀ wx, (∀ q, q < w.heap.size → wx.heap[q]? = wr.heap[q]?) → (convert 22 9 (.slice na (l[k]).1.length np)).run Tryz.prog wx = .ok (.string (strOf (l[k]).1)) wx) := fun wx hb => by
      obtain ⟨na', np', e1, hsa, _⟩ := htx.agree (w' := wx) (fun q hq => hb q (by have : q < N := hq; omega))
      simp only [Value.slice.injEq, true_and] at e1
      obtain ⟨rfl, rfl⟩ := e1
      exact conv_seg _ hsa
    have hkl : (l[k]).1.length ≤ maxLen := by obtain ⟨_, _, e, _, h1, h2, _⟩ := htx; omega
    have Hky := hide' (keyS (l[k]).1 hkl)
    have HEn : Hid (entB d s0 l[k] = ((mapB d (l[k]).2.1 && addrsB (l[k]).2.2.1) && (decide (1 ≤ (l[k]).2.2.2.2) && decide ((l[k]).2.2.2.2 ≤ s0)))) := by
      show entB d s0 l[k] = _
      unfold entB
      rw [Bool.and_assoc]
    have HNo : Hid (entB d s0 l[k] = false → ans = false) := fun h => HNo0.out k hlt h
    have HEx : Hid (entB d s0 l[k] = true → ∀ j (h : j < l.length), j < k + 1 → entB d s0 l[j] = true) := fun h1 j hj hjk => by
      by_cases e : j = k
      · subst e; exact h1
      · exact HE.out j hj (by omega)
    have HNm : Hid (∀ (w4 w5 : World) (p : Value), Below wr.heap.size wr w4 → HeldIs wr.heap.size (fun q => wr.heap.size ≤ q ∧ q < w4.heap.size) w4 d l[k] p → w5.ownsMap Tryz.prog 9 tokR (w.heap.size + 1) (k + 1) ((mapD (adrL l) ps k).put (.string (u8s (l[k]).1)) (.held p)) → w4.grownBy w5 (some (w.heap.size + 1)) → WLp d N w l s0 s1 nm s3 (.cells #[.int .i64 s0, .bool s1, .slice pa pl pc, .int .i64 s3, .slice (some ⟨b, off, none⟩) ll ec] 31) k (k + 1) (.slice ya k yc) (ps ++ [p]) w5) := fun w4 w5 p h1 h2 h3 h4 => wlp_map HW.out hlt h1 h2 h3 h4
    have HNr : Hid (∀ (w5 w6 : World) (p : Value) (y' : Value) (vs' : List Value), WLp d N w l s0 s1 nm s3 (.cells #[.int .i64 s0, .bool s1, .slice pa pl pc, .int .i64 s3, .slice (some ⟨b, off, none⟩) ll ec] 31) k (k + 1) (.slice ya k yc) (ps ++ [p]) w5 → vs'.length = k → (∀ i (h : i < l.length), i < k → TSeg (fun b => b < N) w (vs'.getD i .nilIface) (l[i]).1) → w5.ownsRow (w.heap.size + 3) 22 1 (.slice ya k yc) k vs' → w6.ownsRow (w.heap.size + 3) 22 1 y' (k + 1) (vs' ++ [.slice na (l[k]).1.length np]) → w5.grownBy w6 (Value.slice ya k yc).ownBlock → (∀ g, y'.ownBlock = some g → (Value.slice ya k yc).ownBlock = some g ∨ w5.heap.size ≤ g) → WLp d N w l s0 s1 nm s3 (.cells #[.int .i64 s0, .bool s1, .slice pa pl pc, .int .i64 s3, .slice (some ⟨b, off, none⟩) ll ec] 31) (k + 1) (k + 1) y' (ps ++ [p]) w6) := fun w5 w6 p y' vs' h1 h2 h3 h4 h5 h6 h7 => wlp_row h1 hlt HTw.out h2 h3 h4 h5 h6 h7
    have HHm : Hid (∀ (w2 w4 : World) (W1 : World) (m : Option Nat) (ha : Option Addr) (hn hc : Nat), wr.heap.size ≤ W1.heap.size → HGood d (l[k]).2.1 (l[k]).2.2.1 W1 w2 m (.slice ha hn hc) → w2.heap.size ≤ w4.heap.size → (∀ q, wr.heap.size ≤ q → q < w2.heap.size → w4.heap[q]? = w2.heap[q]?) → HeldIs wr.heap.size (fun q => wr.heap.size ≤ q ∧ q < w4.heap.size) w4 d l[k] (.agg #[.map m, .slice ha hn hc, .bool (l[k]).2.2.2.1, .int .i64 (l[k]).2.2.2.2])) := fun w2 w4 W1 m ha hn hc h1 hg h2 h3 => by
      obtain ⟨g1, g2⟩ := hg
      have hlt2 : ∀ q, (Value.slice ha hn hc).ownBlock = some q → W1.heap.size ≤ q ∧ q < w2.heap.size := fun q hq => World.ownsRow.lt g2 q hq
      exact ⟨m, ha, hn, hc, rfl, PSeg.carry (fun q hq => ⟨by omega, by omega⟩) (fun q hq => h3 q (by omega) hq.2) d g1, g2.carry h1 (fun q hq => by have := hlt2 q hq; exact h3 q (by omega) this.2), fun q hq => by have := hlt2 q hq; omega⟩
    have HBx : Hid (wr.heap[w.heap.size]? = some (.cells #[.int .i64 s0, .bool s1, .slice pa pl pc, .int .i64 s3, .slice (some ⟨b, off, none⟩) ll ec] 31)) := HW.out.box
    have HWx : Hid (WBx wr (w.heap.size + 2) (w.heap.size + 1) s0 s1 nm s3) := HW.out.wbx
    have HOw : Hid (wr.ownsMap Tryz.prog 9 tokR (w.heap.size + 1) k (mapD (adrL l) ps k)) := HW.out.own
    have HBr : Hid (Below w.heap.size w wr) := HW.out.bel
    clear htx hvx hkx hs hat hA2 hTw hzk hsK hkz hkl HL HLw hrow hvl hvt HAns HAll HNo0 HE HW
    generalize (mapB d (l[k]).2.1 && addrsB (l[k]).2.2.1) = okb at *
    obtain ⟨dl, hdl⟩ : ∃ dl, dl = (l[k]).2.2.1.length := ⟨_, rfl⟩
    rw [← hdl] at hr HHe
    clear hdl
    obtain ⟨tn, htn⟩ : ∃ tn, tn = (l[k]).2.2.2.1 := ⟨_, rfl⟩
    obtain ⟨tu, htu⟩ : ∃ tu, tu = (l[k]).2.2.2.2 := ⟨_, rfl⟩
    rw [← htn, ← htu] at hr
    rw [← htu] at HEn
    rw [← htn, ← htu] at HHm
    clear htn htu
    obtain ⟨al, hal⟩ : ∃ al, al = (l[k]).1.length := ⟨_, rfl⟩
    rw [← hal] at hr HCv HNr
    clear hal
    obtain ⟨xs, hxs⟩ : ∃ xs, xs = (l[k]).1 := ⟨_, rfl⟩
    rw [← hxs] at HCv HNm Hky
    clear hxs
    go_wp2_with (refine wpList_load_mid rfl 51 (.tmp 41) (by rfl) b (off + k * 9) (by rfl) [.slice na al np, .int .i64 bk, .int .i64 bn, .slice a2 l2 p2, .slice a3 l3 p3, .slice a4 l4 p4, .slice xa dl xp, .bool tn, .int .i64 tu] _ hr Tryz.underlying51 rfl (by kernel_rfl) ?_)
    have HWB : Hid (Below wr.heap.size wr (wr.alloc (.cells #[.slice na al np, .int .i64 bk, .int .i64 bn, .slice a2 l2 p2, .slice a3 l3 p3, .slice a4 l4 p4, .slice xa dl xp, .bool tn, .int .i64 tu] 51))) := (Below.refl _ _).alloc (Nat.le_refl _) _
    have HWR : Hid ((wr.alloc (.cells #[.slice na al np, .int .i64 bk, .int .i64 bn, .slice a2 l2 p2, .slice a3 l3 p3, .slice a4 l4 p4, .slice xa dl xp, .bool tn, .int .i64 tu] 51)).heap[wr.heap.size]? = some (.cells #[.slice na al np, .int .i64 bk, .int .i64 bn, .slice a2 l2 p2, .slice a3 l3 p3, .slice a4 l4 p4, .slice xa dl xp, .bool tn, .int .i64 tu] 51 (0, 0))) := (MapKept.heap_alloc wr _).1
    clear hr
    generalize wr.alloc (.cells #[.slice na al np, .int .i64 bk, .int .i64 bn, .slice a2 l2 p2, .slice a3 l3 p3, .slice a4 l4 p4, .slice xa dl xp, .bool tn, .int .i64 tu] 51) = W1 at *
    have hebW : wr.heap.size < W1.heap.size := (Array.getElem?_eq_some_iff.1 HWR.out).1
    refine (HHe.out _ HWB.out).mono ?_
    rintro e w2 ⟨m, ha, hn, hc, rfl, b2, hgood⟩
    have hsz2 := b2.size
    have HB2 := hide' (Below.on HWB.out b2)
    obtain ⟨x0, x1, x2, x3, x4, x5, x6, x7, x8⟩ := ev_row ((b2.block _ hebW).trans HWR.out)
    have fs0 : w2.cell? ⟨w.heap.size, 0, none⟩ = some (.int .i64 s0) := (five_row ((HB2.out.block _ (by omega)).trans HBx.out)).1
    have HGd0 := hide' hgood
    have HX1 := hide' ((b2.block _ hebW).trans HWR.out)
    obtain ⟨v0, v1, v2, v3, v4, v5, v6, v7, v8⟩ := ev_row ((Below.heap_alloc w2 (.cells #[.map m, .slice ha hn hc, .bool false, .int .i64 0] 62) _ (by omega)).trans HX1.out)
    have vs0 : (w2.alloc (.cells #[.map m, .slice ha hn hc, .bool false, .int .i64 0] 62)).cell? ⟨w.heap.size, 0, none⟩ = some (.int .i64 s0) := (five_row ((Below.heap_alloc w2 (.cells #[.map m, .slice ha hn hc, .bool false, .int .i64 0] 62) _ (by omega)).trans ((HB2.out.block _ (by omega)).trans HBx.out))).1
    have HW2 : Hid (Below w.heap.size w (w2.alloc (.cells #[.map m, .slice ha hn hc, .bool false, .int .i64 0] 62))) := (Below.on HBr.out HB2.out).alloc (by have := HBr.out.size; omega) _
    clear b2 hgood
    cases okb with
    | false =>
      have HF : Hid (ans = false) := HNo.out (by rw [HEn.out]; rfl)
      clear HNo HEn HEx HNm HNr HHm HGd0
      go_wp2
      go_ret2
      exact (HEnd.out _ _).2 ⟨HW2.out, .inl ⟨HF.out, rfl⟩⟩
    | true =>
    have HGd := hide' (HGd0.out rfl)
    clear HGd0
    by_cases ht1 : tu < 1
    · have HF : Hid (ans = false) := HNo.out (by rw [HEn.out, decide_eq_false (p := (1 : Int) ≤ tu) (by omega)]; rfl)
      clear HNo HEn HEx HNm HNr HHm HGd
      go_wp2
      go_ret2
      exact (HEnd.out _ _).2 ⟨HW2.out, .inl ⟨HF.out, rfl⟩⟩
    by_cases ht2 : s0 < tu
    · have HF : Hid (ans = false) := HNo.out (by rw [HEn.out, decide_eq_false (p := tu ≤ s0) (by omega)]; simp)
      clear HNo HEn HEx HNm HNr HHm HGd
      go_wp2
      go_ret2
      exact (HEnd.out _ _).2 ⟨HW2.out, .inl ⟨HF.out, rfl⟩⟩
    have HE1 := hide' (HEx.out (by rw [HEn.out, decide_eq_true (p := (1 : Int) ≤ tu) (by omega), decide_eq_true (p := tu ≤ s0) (by omega)]; rfl))
    have HHw : Hid ((w2.alloc (.cells #[.map m, .slice ha hn hc, .bool false, .int .i64 0] 62)).heap[w2.heap.size]? = some (.cells #[.map m, .slice ha hn hc, .bool false, .int .i64 0] 62 (0, 0))) := (MapKept.heap_alloc w2 _).1
    have HKp : Hid (∀ q, q < w2.heap.size → (w2.alloc (.cells #[.map m, .slice ha hn hc, .bool false, .int .i64 0] 62)).heap[q]? = w2.heap[q]?) := fun q hq => Below.heap_alloc w2 _ q hq
    have HBW3 : Hid (Below wr.heap.size wr (w2.alloc (.cells #[.map m, .slice ha hn hc, .bool false, .int .i64 0] 62))) := HB2.out.alloc HB2.out.size _
    clear HNo HEn HEx HHe
    go_wp2_with fail
    clear x0 x1 x2 x3 x4 x5 x6 x7 x8 fs0 v0 v1 v2 v3 v4 v5 v6 v7 v8 vs0
    generalize hW3 : (w2.alloc (.cells #[.map m, .slice ha hn hc, .bool false, .int .i64 0] 62)) = W3 at *
    have hsz3' : W3.heap.size = w2.heap.size + 1 := by rw [← hW3]; simp
    clear hW3
    have HH3 : Hid (W3.drew.heap[w2.heap.size]? = some (.cells #[.map m, .slice ha hn hc, .bool false, .int .i64 0] 62 (0, 0))) := HHw.out
    have HK3 : Hid (∀ q, q < w2.heap.size → W3.drew.heap[q]? = w2.heap[q]?) := HKp.out
    have hz3 : W3.drew.heap.size = w2.heap.size + 1 := hsz3'
    have HB3 : Hid (Below wr.heap.size wr W3.drew) := HBW3.out.drew
    obtain ⟨g0, g1, g2, g3⟩ := four_row HH3.out
    have gf2 := frozen_of_row _ _ 2 _ _ HH3.out
    have gf3 := frozen_of_row _ _ 3 _ _ HH3.out
    obtain ⟨x0, x1, x2, x3, x4, x5, x6, x7, x8⟩ := ev_row ((HK3.out _ (by omega)).trans HX1.out)
    have HX7 := hide' x7
    have HX8 := hide' x8
    have hne : wr.heap.size ≠ w2.heap.size := by omega
    clear x0 x1 x2 x3 x4 x5 x6 x7 x8 HKp HHw HW2 HBW3 hsz3'
    refine wp_region_held_drew (S := fun w' => w'.cell? ⟨wr.heap.size, 7, none⟩ = some (.bool tn) ∧ w'.cell? ⟨wr.heap.size, 8, none⟩ = some (.int .i64 tu)) (by kernel_rfl) ⟨HX7.out, HX8.out⟩ (fun hHeld => ?_)
    generalize W3.drew = w3 at *
    refine take_yes (i := 0) 65 (v := ?_) rfl rfl (by kernel_rfl) (by kernel_rfl) (by kernel_rfl) (fun _ _ _ h => h) (by kernel_rfl) hHeld ?_ ?_
    rotate_left
    focus (intro w hSw; (try dsimp only at hSw); go_simp; (try with_reducible rfl))
    simp only [Act.put, List.setIfInBounds_toArray, List.set_cons_zero, List.set_cons_succ]
    refine take_yes (i := 1) 66 (v := ?_) rfl rfl (by kernel_rfl) (by kernel_rfl) (by kernel_rfl) (fun _ _ _ h => h) (by kernel_rfl) hHeld ?_ ?_
    rotate_left
    focus (intro w hSw; (try dsimp only at hSw); go_simp; (try with_reducible rfl))
    simp only [Act.put, List.setIfInBounds_toArray, List.set_cons_zero, List.set_cons_succ]
    refine take_yes (i := 2) 67 (v := ?_) rfl rfl (by kernel_rfl) (by kernel_rfl) (by kernel_rfl) (fun _ _ _ h => h) (by kernel_rfl) hHeld ?_ ?_
    rotate_left
    focus (intro w hSw; (try dsimp only at hSw); go_simp; (try with_reducible rfl))
    simp only [Act.put, List.setIfInBounds_toArray, List.set_cons_zero, List.set_cons_succ]
    refine take_yes (i := 3) 68 (v := ?_) rfl rfl (by kernel_rfl) (by kernel_rfl) (by kernel_rfl) (fun _ _ _ h => h) (by kernel_rfl) hHeld ?_ ?_
    rotate_left
    focus (intro w hSw; (try dsimp only at hSw); go_simp; (try with_reducible rfl))
    simp only [Act.put, List.setIfInBounds_toArray, List.set_cons_zero, List.set_cons_succ]
    refine take_yes (i := 4) 69 (v := ?_) rfl rfl (by kernel_rfl) (by kernel_rfl) (by kernel_rfl) (fun _ _ _ h => h) (by kernel_rfl) hHeld ?_ ?_
    rotate_left
    focus (intro w hSw; (try dsimp only at hSw); go_simp; (try with_reducible rfl))
    simp only [Act.put, List.setIfInBounds_toArray, List.set_cons_zero, List.set_cons_succ]
    refine wpAnyH_ready (rs := [5]) (by kernel_rfl) (by simp) ?_
    refine AllReadyH.cons rfl (fun K hK => ?_) AllReadyH.nil
    go_simp
    refine hK.out _ _ (⟨(cell_store_ne (fun e _ => absurd e hne)).trans hHeld.1, (cell_store_ne (fun e _ => absurd e hne)).trans hHeld.2⟩) (fun hHeld => ?_)
    clear hK
    (try simp only [Act.put, List.setIfInBounds_toArray, List.set_cons_zero, List.set_cons_succ])
    refine take_yes (i := 6) 70 (v := ?_) rfl rfl (by kernel_rfl) (by kernel_rfl) (by kernel_rfl) (fun _ _ _ h => h) (by kernel_rfl) hHeld ?_ ?_
    rotate_left
    focus (intro w hSw; (try dsimp only at hSw); go_simp; (try with_reducible rfl))
    simp only [Act.put, List.setIfInBounds_toArray, List.set_cons_zero, List.set_cons_succ]
    refine wpAnyH_ready (rs := [7]) (by kernel_rfl) (by simp) ?_
    refine AllReadyH.cons rfl (fun K hK => ?_) AllReadyH.nil
    go_simp
    refine hK.out _ _ (⟨(cell_store_ne (fun e _ => absurd e hne)).trans hHeld.1, (cell_store_ne (fun e _ => absurd e hne)).trans hHeld.2⟩) (fun hHeld => ?_)
    clear hK
    (try simp only [Act.put, List.setIfInBounds_toArray, List.set_cons_zero, List.set_cons_succ])
    refine wpAnyH_done (by kernel_rfl) ?_ _
    have HH4 : Hid (((w3.setCell ⟨w2.heap.size, 2, none⟩ (.bool tn)).setCell ⟨w2.heap.size, 3, none⟩ (.int .i64 tu)).heap[w2.heap.size]? = some (.cells #[.map m, .slice ha hn hc, .bool tn, .int .i64 tu] 62 (0, 0))) := heap_setCell_same _ w2.heap.size 3 _ _ _ (heap_setCell_same w3 w2.heap.size 2 _ _ _ HH3.out)
    have gA := grownBy_trans (grown1 w3 w2.heap.size 2 (.bool tn)) (grown1 _ w2.heap.size 3 (.int .i64 tu))
    have HK4 : Hid (∀ q, q < w2.heap.size → ((w3.setCell ⟨w2.heap.size, 2, none⟩ (.bool tn)).setCell ⟨w2.heap.size, 3, none⟩ (.int .i64 tu)).heap[q]? = w2.heap[q]?) := fun q hq => (gA.block q (by omega) (by simp; omega)).trans (HK3.out q hq)
    have HB4 : Hid (Below wr.heap.size wr ((w3.setCell ⟨w2.heap.size, 2, none⟩ (.bool tn)).setCell ⟨w2.heap.size, 3, none⟩ (.int .i64 tu))) := HB3.out.grown gA HB3.out.size (by intro j hj; simp at hj; omega)
    have hz4 := gA.size
    clear gA g0 g1 g2 g3 gf2 gf3 HX7 HX8 HH3 HK3 HB3 hHeld
    generalize (w3.setCell ⟨w2.heap.size, 2, none⟩ (.bool tn)).setCell ⟨w2.heap.size, 3, none⟩ (.int .i64 tu) = W4 at *
    go_wp2_with fail
    have hb4 : Below wr.heap.size wr W4.drew := HB4.out.drew
    have hz4' : w2.heap.size + 1 ≤ W4.drew.heap.size := by show w2.heap.size + 1 ≤ W4.heap.size; omega
    have ho4 : W4.drew.ownsMap Tryz.prog 9 tokR (w.heap.size + 1) k (mapD (adrL l) ps k) := HOw.out.kept (below_grows hb4 none) (by simp)
    obtain ⟨w5, hrun, hown5, hg5⟩ := World.ownsMap.update ho4 (Maps.string_keyed Tryz.underlying9) Tryz.underlying71 (by unfold maxLen; omega) Hky.out (val := .agg #[.map m, .slice ha hn hc, .bool tn, .int .i64 tu]) (d := .held (.agg #[.map m, .slice ha hn hc, .bool tn, .int .i64 tu])) (ps := []) rfl
    have HHI := hide' (HHm.out w2 W4.drew W1 m ha hn hc (by omega) HGd.out (by omega) (fun q _ hq => HK4.out q hq))
    have hbk5 : ∀ q, q < W4.drew.heap.size → q ≠ w.heap.size + 1 → w5.heap[q]? = W4.drew.heap[q]? := fun q h1 h2 => hg5.block q h1 (by simp; omega)
    have HS4 : Hid (W4.drew.cell? ⟨w.heap.size + 1 + 1, 4, none⟩ = some (.map (some (w.heap.size + 1))) ∧ W4.drew.cell? ⟨wr.heap.size, 0, none⟩ = some (.slice na al np) ∧ (convert 22 9 (.slice na al np)).run Tryz.prog W4.drew = .ok (.string (strOf xs)) W4.drew ∧ W4.drew.cell? ⟨w2.heap.size, 0, none⟩ = some (.map m) ∧ W4.drew.cell? ⟨w2.heap.size, 1, none⟩ = some (.slice ha hn hc) ∧ W4.drew.cell? ⟨w2.heap.size, 2, none⟩ = some (.bool tn) ∧ W4.drew.cell? ⟨w2.heap.size, 3, none⟩ = some (.int .i64 tu)) := by
      obtain ⟨q0, q1, q2, q3⟩ := four_row (w := W4.drew) HH4.out
      refine ⟨(five_row ((hb4.block _ (by omega)).trans HWx.out)).2.2.2.2, (ev_row ((HK4.out _ (by omega)).trans HX1.out)).1, HCv.out _ (fun q hq => hb4.block q (by omega)), q0, q1, q2, q3⟩
    have HS5 : Hid (w5.cell? ⟨w.heap.size + 1 + 1, 4, none⟩ = some (.map (some (w.heap.size + 1))) ∧ w5.cell? ⟨wr.heap.size, 0, none⟩ = some (.slice na al np) ∧ (convert 22 9 (.slice na al np)).run Tryz.prog w5 = .ok (.string (strOf xs)) w5 ∧ w5.cell? ⟨w2.heap.size, 0, none⟩ = some (.map m) ∧ w5.cell? ⟨w2.heap.size, 1, none⟩ = some (.slice ha hn hc) ∧ w5.cell? ⟨w2.heap.size, 2, none⟩ = some (.bool tn) ∧ w5.cell? ⟨w2.heap.size, 3, none⟩ = some (.int .i64 tu)) := by
      obtain ⟨q0, q1, q2, q3⟩ := four_row ((hbk5 _ (by omega) (by omega)).trans HH4.out)
      refine ⟨(five_row ((hbk5 _ (by omega) (by omega)).trans ((hb4.block _ (by omega)).trans HWx.out))).2.2.2.2, (ev_row ((hbk5 _ (by omega) (by omega)).trans ((HK4.out _ (by omega)).trans HX1.out))).1, HCv.out _ (fun q hq => (hbk5 _ (by omega) (by omega)).trans (hb4.block q (by omega))), q0, q1, q2, q3⟩
    have HW5 := hide' (HNm.out W4.drew w5 _ hb4 HHI.out hown5 hg5)
    obtain ⟨vs5, hrow5, hvl5, hvt5⟩ := HW5.out.row
    have HRow := hide' hrow5
    have HVl := hide' hvl5
    have HVt := hide' hvt5
    clear hown5 hbk5 HHI HNm HHm HGd ho4 hrow5 hvl5 hvt5
    refine wp_region_held_drew (S := fun w' => w'.cell? ⟨w.heap.size + 1 + 1, 4, none⟩ = some (.map (some (w.heap.size + 1))) ∧ w'.cell? ⟨wr.heap.size, 0, none⟩ = some (.slice na al np) ∧ (convert 22 9 (.slice na al np)).run Tryz.prog w' = .ok (.string (strOf xs)) w' ∧ w'.cell? ⟨w2.heap.size, 0, none⟩ = some (.map m) ∧ w'.cell? ⟨w2.heap.size, 1, none⟩ = some (.slice ha hn hc) ∧ w'.cell? ⟨w2.heap.size, 2, none⟩ = some (.bool tn) ∧ w'.cell? ⟨w2.heap.size, 3, none⟩ = some (.int .i64 tu)) (by kernel_rfl) HS4.out (fun hHeld => ?_)
    generalize W4.drew = w4 at *
    refine take_yes (i := 0) 71 (v := ?_) rfl rfl (by kernel_rfl) (by kernel_rfl) (by kernel_rfl) (fun _ _ _ h => h) (by kernel_rfl) hHeld ?_ ?_
    rotate_left
    focus (intro w hSw; (try dsimp only at hSw); go_simp; (try with_reducible rfl))
    simp only [Act.put, List.setIfInBounds_toArray, List.set_cons_zero, List.set_cons_succ]
    refine take_yes (i := 1) 72 (v := ?_) rfl rfl (by kernel_rfl) (by kernel_rfl) (by kernel_rfl) (fun _ _ _ h => h) (by kernel_rfl) hHeld ?_ ?_
    rotate_left
    focus (intro w hSw; (try dsimp only at hSw); go_simp; (try with_reducible rfl))
    simp only [Act.put, List.setIfInBounds_toArray, List.set_cons_zero, List.set_cons_succ]
    refine take_yes (i := 2) 73 (v := ?_) rfl rfl (by kernel_rfl) (by kernel_rfl) (by kernel_rfl) (fun _ _ _ h => h) (by kernel_rfl) hHeld ?_ ?_
    rotate_left
    focus (intro w hSw; (try dsimp only at hSw); go_simp; (try with_reducible rfl))
    simp only [Act.put, List.setIfInBounds_toArray, List.set_cons_zero, List.set_cons_succ]
    refine take_yes (i := 3) 74 (v := ?_) rfl rfl (by kernel_rfl) (by kernel_rfl) (by kernel_rfl) (fun _ _ _ h => h) (by kernel_rfl) hHeld ?_ ?_
    rotate_left
    focus (intro w hSw; (try dsimp only at hSw); go_simp; (try with_reducible rfl))
    simp only [Act.put, List.setIfInBounds_toArray, List.set_cons_zero, List.set_cons_succ]
    refine take_yes (i := 4) 75 (v := ?_) rfl rfl (by kernel_rfl) (by kernel_rfl) (by kernel_rfl) (fun _ _ _ h => h) (by kernel_rfl) hHeld ?_ ?_
    rotate_left
    focus (intro w hSw; (try dsimp only at hSw); go_simp; (try with_reducible rfl))
    simp only [Act.put, List.setIfInBounds_toArray, List.set_cons_zero, List.set_cons_succ]
    refine take_yes (i := 5) 76 (v := ?_) rfl rfl (by kernel_rfl) (by kernel_rfl) (by kernel_rfl) (fun _ _ _ h => h) (by kernel_rfl) hHeld ?_ ?_
    rotate_left
    focus (intro w hSw; (try dsimp only at hSw); go_simp; (try with_reducible rfl))
    simp only [Act.put, List.setIfInBounds_toArray, List.set_cons_zero, List.set_cons_succ]
    refine take_yes (i := 6) 77 (v := ?_) rfl rfl (by kernel_rfl) (by kernel_rfl) (by kernel_rfl) (fun _ _ _ h => h) (by kernel_rfl) hHeld ?_ ?_
    rotate_left
    focus (intro w hSw; (try dsimp only at hSw); go_simp; (try with_reducible rfl))
    simp only [Act.put, List.setIfInBounds_toArray, List.set_cons_zero, List.set_cons_succ]
    refine take_yes (i := 7) 78 (v := ?_) rfl rfl (by kernel_rfl) (by kernel_rfl) (by kernel_rfl) (fun _ _ _ h => h) (by kernel_rfl) hHeld ?_ ?_
    rotate_left
    focus (intro w hSw; (try dsimp only at hSw); go_simp; (try with_reducible rfl))
    simp only [Act.put, List.setIfInBounds_toArray, List.set_cons_zero, List.set_cons_succ]
    refine wpAnyH_ready (rs := [8]) (by kernel_rfl) (by simp) ?_
    refine AllReadyH.cons rfl (fun K hK => ?_) AllReadyH.nil
    go_simp
    refine hK.out _ _ (HS5.out) (fun hHeld => ?_)
    clear hK
    (try simp only [Act.put, List.setIfInBounds_toArray, List.set_cons_zero, List.set_cons_succ])
    refine wpAnyH_done (by kernel_rfl) ?_ _
    obtain ⟨hh0, hh1, hh2, hh3, hh4, hh5, hh6⟩ := hHeld
    have hsz5 : w.heap.size + 3 ≤ w5.heap.size := HW5.out.siz
    clear hh0 hh2 hh3 hh4 hh5 hh6 hrun HS4 HS5 HOw HWx HBx hg5
    go_wp2_with (at_builtin; refine wpList_AR_add rfl (.tmp 79) (.tmp 82) (by rfl) (w.heap.size + 3) (.slice ya k yc) vs5 (.slice na al np) rfl (by rfl) k HRow.out w5.heap.size rfl (by rfl) (by omega) hsz5 ?_; intro za zc w6 hr6 hg6 hloc; have HN6 := hide' (HNr.out _ _ _ _ _ HW5.out HVl.out HVt.out HRow.out hr6 hg6 hloc); clear hr6 hg6 hloc)
    go_wp2
    go_roundw
    case rel => exact ⟨k + 1, _, by omega, by go_num, HN6, HE1⟩
    case measure => simp [intOf]; omega

end Go.Proofs.YtngjhimieacjhaaGreatDoor
/-
  Entries of the call's own, whose parts lie apart in whatever order.
-/
namespace Go.Proofs.YtngjhimieacjhaaGreatDoor
open Go.RowKit
set_option linter.unusedVariables false
set_option linter.unusedSimpArgs false

/-- Nine cells that read as an entry of the call's own, in the blocks B; its parts lie apart. -/
def NtOwnD (w : World) (d : Nat) (cs : List Value) (it : Ntr d) (B : List Nat) : Prop :=
  ∃ c1 c3 c4 c5 c6 c7 c8 B1 B2 B3, cs = [c1, c3, c4, c5, c6, c7, c8, .bool it.2.2.2.1, .int .i64 it.2.2.2.2] ∧ TOwn w c1 it.1 B1 ∧ VOwn w d (c3, c4, c5, c6, c7) it.2.1 B2 ∧ KOwn w c8 it.2.2.1 B3 ∧ B = B1 ++ (B2 ++ B3) ∧ (∀ b ∈ B1, b ∉ B2) ∧ (∀ b ∈ B1, b ∉ B3) ∧ (∀ b ∈ B2, b ∉ B3)

section
variable {w w' : World} {d : Nat} {cs : List Value} {it : Ntr d} {B : List Nat}
theorem NtOwnD.agree (h : NtOwnD w d cs it B) (ha : Agree (fun b => b ∈ B) w w') : NtOwnD w' d cs it B := by
  obtain ⟨c1, c3, c4, c5, c6, c7, c8, B1, B2, B3, e, h1, h2, h3, rfl, hs⟩ := h
  exact ⟨c1, c3, c4, c5, c6, c7, c8, B1, B2, B3, e, h1.agree fun b hb => ha b (by simp [hb]), VOwn.agree d h2 fun b hb => ha b (by simp [hb]), h3.agree fun b hb => ha b (by simp [hb]), rfl, hs⟩
theorem NtOwnD.lt (h : NtOwnD w d cs it B) : ∀ b ∈ B, b < w.heap.size := by
  obtain ⟨c1, c3, c4, c5, c6, c7, c8, B1, B2, B3, e, h1, h2, h3, rfl, hs⟩ := h
  intro b hb
  simp only [List.mem_append] at hb
  rcases hb with hb | hb | hb
  · exact h1.lt b hb
  · exact VOwn.lt d h2 b hb
  · exact h3.lt b hb
theorem NtOwnD.on (h : NtOwnD w d cs it B) (hb : Below w.heap.size w w') : NtOwnD w' d cs it B := h.agree fun b hb' => hb.block b (h.lt b hb')
theorem NtOwnD.far {B' : List Nat} (h : NtOwnD w d cs it B) (hT : Turned B' w w') (hd : ∀ b ∈ B, b ∉ B') : NtOwnD w' d cs it B := h.agree fun b hb' => hT.block b (h.lt b hb') (hd b hb')
theorem NtOwnD.read (h : NtOwnD w d cs it B) : NtSg (fun b => b < w.heap.size) w d cs it := by
  have hlt := h.lt
  obtain ⟨c1, c3, c4, c5, c6, c7, c8, B1, B2, B3, e, h1, h2, h3, rfl, hs⟩ := h
  exact ⟨c1, c3, c4, c5, c6, c7, c8, e, h1.seg.mono fun b hb => hlt b (by simp [hb]), VSeg.mono (fun b hb => hlt b (by simp [hb])) d (VOwn.seg d h2), h3.seg.mono fun b hb => hlt b (by simp [hb])⟩
theorem NtOwn.apart (h : NtOwn w d cs it B) : NtOwnD w d cs it B := by
  obtain ⟨c1, c3, c4, c5, c6, c7, c8, B1, B2, B3, e, h1, h2, h3, rfl, s1, s2, d1, d2, d3, s12⟩ := h
  exact ⟨c1, c3, c4, c5, c6, c7, c8, B1, B2, B3, e, h1, h2, h3, rfl, fun b hb hb' => by have e1 := d1 b hb; have e2 := d2 b hb'; omega, fun b hb hb' => by have e1 := d1 b hb; have e2 := d3 b hb'; omega, fun b hb hb' => by have e1 := d2 b hb; have e2 := d3 b hb'; omega⟩

/-- Three parts in three windows. -/
theorem entry_leaf {lo p1 q1 p2 q2 p3 q3 : Nat} {c1 c3 c4 c5 c6 c7 c8 : Value} (hT : TW p1 q1 w c1 it.1) (hV : VW p2 q2 w d (c3, c4, c5, c6, c7) it.2.1) (hK : KW p3 q3 w c8 it.2.2.1) (h12 : q1 ≤ p2 ∨ q2 ≤ p1) (h13 : q1 ≤ p3 ∨ q3 ≤ p1) (h23 : q2 ≤ p3 ∨ q3 ≤ p2) (l1 : lo ≤ p1) (l2 : lo ≤ p2) (l3 : lo ≤ p3) :
    ∃ B, NtOwnD w d [c1, c3, c4, c5, c6, c7, c8, .bool it.2.2.2.1, .int .i64 it.2.2.2.2] it B ∧ ∀ b ∈ B, lo ≤ b := by
  obtain ⟨B1, o1, w1⟩ := hT
  obtain ⟨B2, o2, w2⟩ := hV
  obtain ⟨B3, o3, w3⟩ := hK
  refine ⟨B1 ++ (B2 ++ B3), ⟨c1, c3, c4, c5, c6, c7, c8, B1, B2, B3, rfl, o1, o2, o3, rfl, fun b hb hb' => ?_, fun b hb hb' => ?_, fun b hb hb' => ?_⟩, fun b hb => ?_⟩
  · have e1 := w1 b hb; have e2 := w2 b hb'; omega
  · have e1 := w1 b hb; have e2 := w3 b hb'; omega
  · have e1 := w2 b hb; have e2 := w3 b hb'; omega
  · simp only [List.mem_append] at hb
    rcases hb with hb | hb | hb
    · have := w1 b hb; omega
    · have := w2 b hb; omega
    · have := w3 b hb; omega
end

/-- What makes an entry leaves. -/
def NtEndD (d : Nat) (it : Ntr d) (w : World) (e : Ending) (w' : World) : Prop := ∃ cs, e = .returned (.agg cs.toArray) ∧ ∃ B, NtOwnD w' d cs it B ∧ (∀ b ∈ B, w.heap.size ≤ b) ∧ Below w.heap.size w w'
/-- The same, in the words of its cells. -/
theorem ntEndD_of {d : Nat} {it : Ntr d} {w V : World} {rb : Nat} {cs : List Value} {B : List Nat} (hb : Below w.heap.size w V) (ho : NtOwnD V d cs it B) (hB : ∀ b ∈ B, rb < b) (hrb : w.heap.size ≤ rb) : NtEndD d it w (.returned (.agg cs.toArray)) (V.setCells rb 0 cs) := by
  have hg := grown_setCells rb cs 0 V
  exact ⟨cs, rfl, B, ho.agree fun b hb' => hg.block b (ho.lt b hb') (by have := hB b hb'; simp; omega), fun b hb' => by have := hB b hb'; omega, hb.grown hg hb.size (by intro j hj; simp at hj; omega)⟩
end Go.Proofs.YtngjhimieacjhaaGreatDoor
