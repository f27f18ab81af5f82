/-
  Texts that a law leans on, one behind the other; no statement is proved here.
-/
import Derived.Test.YtngjhimieacjhaaGreatDoorPk14
import Derived.Test.YtngjhimieacjhaaGreatDoorPk15
import Derived.BigQuiet
/-
  StateOk of the specification.
-/
namespace Go.Proofs.YtngjhimieacjhaaGreatDoor
open Go.RowKit
set_option linter.unusedVariables false
set_option linter.unusedSimpArgs false

set_option maxHeartbeats 12800000 in
set_option maxRecDepth 100000 in
theorem spec_StateOk_b (d N : Nat) (cs : List Value) (s : Stt d) (w : World) (hx : SaSg (fun b => b < N) w d cs s) (hN : N ≤ w.heap.size) (hp : ¬ s.2.2.1.length = 0) (h1 : ¬ s.2.2.2.1 = 1) :
    Calls Tryz.prog 24 #[.agg cs.toArray] w fun e w' => e = .returned (.bool (staB d s)) ∧ Below w.heap.size w w' := by
  have HF0 : Hid (∀ wx, Below w.heap.size w wx → ∀ (ka : Option Addr) (kc : Nat) (key : List Int), Seg wx ka key → (∀ x, ka = some x → key ≠ [] → x.block < wx.heap.size) → Calls Tryz.prog 34 #[.agg cs.toArray, .slice ka key.length kc] wx fun e w' => e = .returned (.int .i64 (findK (adrL s.2.2.2.2) key)) ∧ Below wx.heap.size wx w') := fun wx hb ka kc key h1 h2 => l4find_any d N cs s ka kc key wx (hx.agree (agree_below (hb.mono hN))) (by have := hb.size; omega) h1 h2
  obtain ⟨pa, pc, ea, ec, rfl, ht, he⟩ := hx.form
  obtain ⟨s0, s1, nm, s3, l⟩ := s
  simp only at ht he HF0 hp h1 ⊢
  have HNs := hide' hN
  have HAdP : Hid (∀ wx, Below w.heap.size w wx → Calls Tryz.prog 42 #[.slice pa nm.length pc] wx fun e w' => e = .returned (.bool (addrB nm)) ∧ wx = w') := fun wx hb => by
    obtain ⟨pa', pc', e1, hsa, hac, hac2, hna, _⟩ := ht.agree (agree_below (hb.mono hN))
    simp only [Value.slice.injEq, true_and] at e1
    obtain ⟨rfl, rfl⟩ := e1
    exact spec_AddrOk_any pa pc nm wx hsa hac hac2 hna
  have HFi : Hid (∀ wx, Below w.heap.size w wx → Calls Tryz.prog 34 #[.agg #[.int .i64 s0, .bool s1, .slice pa nm.length pc, .int .i64 s3, .slice ea l.length ec], .slice pa nm.length pc] wx fun e w' => e = .returned (.int .i64 (findK (adrL l) nm)) ∧ Below wx.heap.size wx w') := fun wx hb => by
    obtain ⟨pa', pc', e1, hsa, hac, hac2, hna, hbl⟩ := ht.agree (agree_below (hb.mono hN))
    simp only [Value.slice.injEq, true_and] at e1
    obtain ⟨rfl, rfl⟩ := e1
    exact HF0.out wx hb pa pc nm hsa (fun x e1 e2 => by have := hb.size; have := hbl x e1 e2; omega)
  have HL0 : Hid (∀ wx, Below w.heap.size w wx → NtLS (fun b => b < N) wx d (.slice ea l.length ec) l) := fun wx hb => he.agree (agree_below (hb.mono hN))
  have hcm : l.length ≤ 9223372036854775807 := by obtain ⟨a, c, e, h1, h2, _⟩ := he; simp at e; unfold maxLen at h2; omega
  have hpm : nm.length ≤ 9223372036854775807 := by obtain ⟨a, c, e, _, h1, h2, _⟩ := ht; unfold maxLen at h2; omega
  have HSta : Hid (staB d (s0, s1, nm, s3, l) = (headS s0 l.length && (pendB s1 nm s3 (hasA (adrL l) nm) && (ascA (adrL l) && l.all (entB d s0))))) := rfl
  have HPd : Hid (pendB s1 nm s3 (hasA (adrL l) nm) = if nm.length = 0 then decide (s3 = 0) else s1 && (addrB nm && (decide (1 ≤ s3) && (decide (s3 ≤ 4) && (decide (0 ≤ findK (adrL l) nm) == !decide (s3 = 1)))))) := rfl
  have HBad0 : Hid (headS s0 l.length = true → pendB s1 nm s3 (hasA (adrL l) nm) = true → (FstS d s0 l l.length → staB d (s0, s1, nm, s3, l) = true) ∧ ∀ k (hk : k < l.length), stepA (adrL l) k = false ∨ entB d s0 l[k] = false → staB d (s0, s1, nm, s3, l) = false) := fun h1 h2 => by
    rw [HSta.out, h1, h2]
    exact ⟨fun h => by rw [rest_yes h]; rfl, fun k hk h => by rw [rest_no hk h]; rfl⟩
  have HA1 : Hid (∀ o : Obj, Below w.heap.size w (w.alloc o)) := fun o => (Below.refl _ _).alloc (Nat.le_refl _) o
  have Hbox : Hid (∀ o : Obj, (w.alloc o).heap[w.heap.size]? = some o) := fun o => (MapKept.heap_alloc w o).1
  obtain ⟨ll, hll⟩ : ∃ ll, ll = l.length := ⟨_, rfl⟩
  have hllc : Hid (ll = l.length) := hll
  rw [← hll] at HFi HL0 hcm
  rw [← hll]
  clear hll
  obtain ⟨pl, hpl⟩ : ∃ pl, pl = nm.length := ⟨_, rfl⟩
  rw [← hpl] at HAdP HFi HPd hpm hp
  rw [← hpl]
  clear hpl ht he hx HF0
  generalize staB d (s0, s1, nm, s3, l) = ans at *
  generalize pendB s1 nm s3 (hasA (adrL l) nm) = pB at *
  generalize addrB nm = adb at *
  generalize findK (adrL l) nm = fk at *
  have HHd : Hid (headS s0 l.length = (decide (0 ≤ s0) && (decide (s0 ≤ 1000000) && decide (ll ≤ 16)))) := by rw [hllc.out]; rfl
  generalize headS s0 l.length = hd at *
  by_cases hlo : s0 < 0
  · have HF : Hid (ans = false) := by show ans = false; rw [HSta.out, HHd.out, decide_eq_false (p := 0 ≤ s0) (by omega)]; rfl
    clear HSta HHd HBad0
    go_enter Tryz.func24, Tryz.ntmps24
    go_wp2
    go_ret
    exact ⟨ret_bool HF.out.symm, HA1.out _⟩
  by_cases hhi : 1000000 < s0
  · have HF : Hid (ans = false) := by show ans = false; rw [HSta.out, HHd.out, decide_eq_false (p := s0 ≤ 1000000) (by omega)]; simp
    clear HSta HHd HBad0
    go_enter Tryz.func24, Tryz.ntmps24
    go_wp2
    go_ret
    exact ⟨ret_bool HF.out.symm, HA1.out _⟩
  by_cases hmany : 16 < ll
  · have hmany' : (16 : Int) < (ll : Int) := by omega
    have HF : Hid (ans = false) := by show ans = false; rw [HSta.out, HHd.out, decide_eq_false (p := ll ≤ 16) (by omega)]; simp
    clear HSta HHd HBad0
    go_enter Tryz.func24, Tryz.ntmps24
    go_wp2
    go_ret
    exact ⟨ret_bool HF.out.symm, HA1.out _⟩
  have hmany' : ¬ (16 : Int) < (ll : Int) := by omega
  obtain rfl : hd = true := by rw [HHd.out, decide_eq_true (p := 0 ≤ s0) (by omega), decide_eq_true (p := s0 ≤ 1000000) (by omega), decide_eq_true (p := ll ≤ 16) (by omega)]; rfl
  clear HHd
  have hp' : (0 : Int) < (pl : Int) := by omega
  rw [if_neg hp] at HPd
  clear hp
  cases s1 with
  | false =>
    have HF : Hid (ans = false) := by show ans = false; rw [HSta.out, HPd.out]; simp
    clear HSta HPd HBad0
    go_enter Tryz.func24, Tryz.ntmps24
    go_wp2
    go_ret
    exact ⟨ret_bool HF.out.symm, HA1.out _⟩
  | true =>
  cases adb with
  | false =>
    have HF : Hid (ans = false) := by show ans = false; rw [HSta.out, HPd.out]; simp
    clear HSta HPd HBad0
    go_enter Tryz.func24, Tryz.ntmps24
    go_wp2_with fail
    refine (HAdP.out _ (HA1.out _)).mono ?_
    rintro e w2 ⟨rfl, rfl⟩
    go_wp2
    go_ret
    exact ⟨ret_bool HF.out.symm, HA1.out _⟩
  | true =>
  by_cases ha1 : s3 < 1
  · have HF : Hid (ans = false) := by show ans = false; rw [HSta.out, HPd.out]; rw [decide_eq_false (p := 1 ≤ s3) (by omega)]; simp
    clear HSta HPd HBad0
    go_enter Tryz.func24, Tryz.ntmps24
    go_wp2_with fail
    refine (HAdP.out _ (HA1.out _)).mono ?_
    rintro e w2 ⟨rfl, rfl⟩
    go_wp2
    go_ret
    exact ⟨ret_bool HF.out.symm, HA1.out _⟩
  by_cases ha4 : 4 < s3
  · have HF : Hid (ans = false) := by show ans = false; rw [HSta.out, HPd.out]; rw [decide_eq_false (p := s3 ≤ 4) (by omega)]; simp
    clear HSta HPd HBad0
    go_enter Tryz.func24, Tryz.ntmps24
    go_wp2_with fail
    refine (HAdP.out _ (HA1.out _)).mono ?_
    rintro e w2 ⟨rfl, rfl⟩
    go_wp2
    go_ret
    exact ⟨ret_bool HF.out.symm, HA1.out _⟩
  have HPt0 : Hid (pB = (decide (0 ≤ fk) == !decide (s3 = 1))) := by show pB = _; rw [HPd.out, decide_eq_true (p := 1 ≤ s3) (by omega), decide_eq_true (p := s3 ≤ 4) (by omega)]; rfl
  by_cases h2 : 0 ≤ fk
  · have hq1 : (s3 == 1) = false := by simpa using h1
    have hq2 : decide (0 ≤ fk) = true := by exact decide_eq_true h2
    have hq3 : decide (fk ≥ 0) = true := hq2
    have HPt : Hid (pB = true) := by show pB = true; rw [HPt0.out, hq2, decide_eq_false h1]; rfl
    have HYes : Hid (FstS d s0 l l.length → ans = true) := (HBad0.out rfl HPt.out).1
    have HBad : Hid (∀ k (hk : k < l.length), stepA (adrL l) k = false ∨ entB d s0 l[k] = false → ans = false) := (HBad0.out rfl HPt.out).2
    clear HPd HSta HPt0 HBad0
    go_enter Tryz.func24, Tryz.ntmps24
    go_wp2_with fail
    refine (HAdP.out _ (HA1.out _)).mono ?_
    rintro e w2 ⟨rfl, rfl⟩
    go_wp2_with fail
    have HW1 := hide' (HA1.out (.cells #[.int .i64 s0, .bool true, .slice pa pl pc, .int .i64 s3, .slice ea ll ec] 31))
    have HR1 := hide' (Hbox.out (.cells #[.int .i64 s0, .bool true, .slice pa pl pc, .int .i64 s3, .slice ea ll ec] 31))
    generalize w.alloc (.cells #[.int .i64 s0, .bool true, .slice pa pl pc, .int .i64 s3, .slice ea ll ec] 31) = W1 at *
    have hsW : w.heap.size < W1.heap.size := (Array.getElem?_eq_some_iff.1 HR1.out).1
    have HSb : Hid (∀ wx, Below W1.heap.size W1 wx → wx.cell? ⟨w.heap.size, 0, none⟩ = some (.int .i64 s0) ∧ wx.cell? ⟨w.heap.size, 1, none⟩ = some (.bool true) ∧ wx.cell? ⟨w.heap.size, 2, none⟩ = some (.slice pa pl pc) ∧ wx.cell? ⟨w.heap.size, 3, none⟩ = some (.int .i64 s3) ∧ wx.cell? ⟨w.heap.size, 4, none⟩ = some (.slice ea ll ec)) := fun wx hb => five_row ((hb.block _ hsW).trans HR1.out)
    have HW0 : Hid (∀ wx, Below W1.heap.size W1 wx → Below w.heap.size w wx) := fun wx hb => Below.on HW1.out hb
    have HL : Hid (∀ wx, Below W1.heap.size W1 wx → ∀ k, k < l.length → ∃ b off, ea = some ⟨b, off, none⟩ ∧ b < N ∧ ∀ i (h : i < l.length), ∃ cs, wx.rangeAt b (off + i * 9) cs ∧ NtSg (fun b => b < N) wx d cs l[i]) := fun wx hb k hk => (HL0.out wx (HW0.out wx hb)).full hk
    have hN1 : N ≤ W1.heap.size := by have := HNs.out; omega
    replace HNs : Hid (N ≤ W1.heap.size) := hN1
    clear hN1
    have HDr : Hid (∀ wx, Below W1.drew.heap.size W1.drew wx → Below W1.heap.size W1 wx) := fun wx hb => Below.on (Below.refl W1.heap.size W1).drew hb
    refine wp_region_held_drew (S := fun w' => w'.cell? ⟨w.heap.size, 0, none⟩ = some (.int .i64 s0) ∧ w'.cell? ⟨w.heap.size, 1, none⟩ = some (.bool true) ∧ w'.cell? ⟨w.heap.size, 2, none⟩ = some (.slice pa pl pc) ∧ w'.cell? ⟨w.heap.size, 3, none⟩ = some (.int .i64 s3) ∧ w'.cell? ⟨w.heap.size, 4, none⟩ = some (.slice ea ll ec)) (by kernel_rfl) (HSb.out _ (Below.refl W1.heap.size W1).drew) (fun hHeld => ?_)
    refine tkY 0 55 hHeld ?_; simp only [Act.put, List.setIfInBounds_toArray, List.set_cons_zero, List.set_cons_succ]
    refine tkY 1 56 hHeld ?_; simp only [Act.put, List.setIfInBounds_toArray, List.set_cons_zero, List.set_cons_succ]
    refine tkY 2 57 hHeld ?_; simp only [Act.put, List.setIfInBounds_toArray, List.set_cons_zero, List.set_cons_succ]
    refine tkY 3 58 hHeld ?_; simp only [Act.put, List.setIfInBounds_toArray, List.set_cons_zero, List.set_cons_succ]
    refine tkY 4 59 hHeld ?_; simp only [Act.put, List.setIfInBounds_toArray, List.set_cons_zero, List.set_cons_succ]
    refine tkY 5 60 hHeld ?_; simp only [Act.put, List.setIfInBounds_toArray, List.set_cons_zero, List.set_cons_succ]
    refine tkY 6 61 hHeld ?_; simp only [Act.put, List.setIfInBounds_toArray, List.set_cons_zero, List.set_cons_succ]
    refine tkY 7 62 hHeld ?_; simp only [Act.put, List.setIfInBounds_toArray, List.set_cons_zero, List.set_cons_succ]
    refine wpAnyH_ready (rs := [8]) (by kernel_rfl) (by simp) ?_
    refine AllReadyH.cons rfl (fun K hK => ?_) AllReadyH.nil
    go_simp
    go_at_call 34
    refine (HFi.out _ HW1.out.drew).mono ?_
    rintro e w3 ⟨rfl, b3⟩
    have hS := HSb.out w3 (HDr.out w3 b3)
    go_wp2_with fail
    refine hK.out _ _ hS (fun hHeld => ?_)
    clear hK
    (try simp only [Act.put, List.setIfInBounds_toArray, List.set_cons_zero, List.set_cons_succ])
    refine tkY 9 64 hHeld ?_; simp only [Act.put, List.setIfInBounds_toArray, List.set_cons_zero, List.set_cons_succ]
    refine tkY 10 65 hHeld ?_; simp only [Act.put, List.setIfInBounds_toArray, List.set_cons_zero, List.set_cons_succ]
    refine tkY 11 66 hHeld ?_; simp only [Act.put, List.setIfInBounds_toArray, List.set_cons_zero, List.set_cons_succ]
    refine wpAnyH_done (by kernel_rfl) ?_ _
    have B3 := hide' (HDr.out _ b3)
    clear b3 hHeld
    clear HFi HAdP HDr
    go_wp2_with fail
    go_loopw [4] (fun i wr => ∃ k : Nat, k ≤ l.length ∧ i = .int .i64 k ∧ Hid (FstS d s0 l k) ∧ Hid (Below W1.heap.size W1 wr)) (fun i _ => l.length - (intOf i).toNat)
    case atStart => exact ⟨0, Nat.zero_le _, rfl, fun i _ h => by omega, B3.out⟩
    case round =>
      obtain ⟨k, hk, rfl, hFst, HBel⟩ := hrel
      obtain ⟨f0, f1, f2, f3, f4⟩ := HSb.out _ HBel.out
      by_cases hlt : k < l.length
      rotate_left
      · have hlt' : ¬ (k : Int) < (ll : Int) := by have := hllc.out; omega
        have hkl : k = l.length := by omega
        have HF : Hid (ans = true) := HYes.out (by rw [← hkl]; exact hFst.out)
        have HBF := hide' (HW0.out _ HBel.out)
        clear hFst hkl
        go_wp2
        go_ret
        exact ⟨ret_bool HF.out.symm, HBF.out⟩
      have hlt' : (k : Int) < (ll : Int) := by have := hllc.out; omega
      have hk0 : (0 : Int) ≤ (k : Int) := Int.natCast_nonneg _
      obtain ⟨b, off, rfl, hbN, hat⟩ := HL.out wr HBel.out k hlt
      obtain ⟨cs, hr, hs⟩ := hat k hlt
      obtain ⟨na, np, bk, bn, a2, l2, p2, a3, l3, p3, a4, l4, p4, xa, xp, rfl, ht, hv, hkk⟩ := hs.form
      have hszr := HBel.out.size
      have hbr : b < wr.heap.size := by have := HNs.out; omega
      have hA2 : ∀ wx, Below wr.heap.size wr wx → Agree (fun b => b < N) wr wx := fun wx hb => agree_below (hb.mono (by have := HNs.out; omega))
      have HW : Hid (∃ W, W = wr.alloc (.cells #[.slice na (l[k]).1.length np, .int .i64 bk, .int .i64 bn, .slice a2 l2 p2, .slice a3 l3 p3, .slice a4 l4 p4, .slice xa (l[k]).2.2.1.length xp, .bool (l[k]).2.2.2.1, .int .i64 (l[k]).2.2.2.2] 51)) := ⟨_, rfl⟩
      have HAa : Hid (∀ o : Obj, Below wr.heap.size wr (wr.alloc o)) := fun o => (Below.refl _ _).alloc (Nat.le_refl _) o
      have HAd : Hid (∀ wx, Below wr.heap.size wr wx → Calls Tryz.prog 42 #[.slice na (l[k]).1.length np] wx fun e w' => e = .returned (.bool (addrB (l[k]).1)) ∧ wx = w') := fun wx hb => by
        obtain ⟨na', np', e1, hsa, hac, hac2, hna, _⟩ := ht.agree (hA2 wx hb)
        simp only [Value.slice.injEq, true_and] at e1
        obtain ⟨rfl, rfl⟩ := e1
        exact spec_AddrOk_any na np _ wx hsa hac hac2 hna
      have HCv : Hid (∀ wx, Below wr.heap.size wr wx → (convert 22 9 (.slice na (l[k]).1.length np)).run Tryz.prog wx = .ok (.string (strOf (l[k]).1)) wx) := fun wx hb => by
        obtain ⟨na', np', e1, hsa, _⟩ := ht.agree (hA2 wx hb)
        simp only [Value.slice.injEq, true_and] at e1
        obtain ⟨rfl, rfl⟩ := e1
        exact conv_seg _ hsa
      have HMp : Hid (∀ wx, Below wr.heap.size wr wx → Calls Tryz.prog 43 #[.agg #[.int .i64 bk, .int .i64 bn, .slice a2 l2 p2, .slice a3 l3 p3, .slice a4 l4 p4]] wx fun e w' => e = .returned (.bool (mapB d (l[k]).2.1)) ∧ Below wx.heap.size wx w') := fun wx hb => l4map_any d N _ _ _ _ _ _ wx (VSeg.agree (hA2 wx hb) d hv) (by have := hb.size; have := HNs.out; omega)
      have HDs : Hid (∀ wx, Below wr.heap.size wr wx → Calls Tryz.prog 44 #[.slice xa (l[k]).2.2.1.length xp] wx fun e w' => e = .returned (.bool (addrsB (l[k]).2.2.1)) ∧ Below wx.heap.size wx w') := fun wx hb => l4addrs_any N _ _ wx (hkk.agree (hA2 wx hb)) (by have := hb.size; have := HNs.out; omega)
      have HNx0 : Hid (0 < k → ∃ (qa : Option Addr) (ql qc : Nat) (zs : List Int), stepA (adrL l) k = (addrB (l[k]).1 && ltS zs (l[k]).1) ∧ ∀ wx, Below wr.heap.size wr wx → wx.cell? ⟨b, off + (k - 1) * 9, none⟩ = some (.slice qa ql qc) ∧ (convert 22 9 (.slice qa ql qc)).run Tryz.prog wx = .ok (.string (strOf zs)) wx) := fun h0 => by
        obtain ⟨ds, hr', hs'⟩ := hat (k - 1) (by omega)
        obtain ⟨e0, e2, e3, e4, e5, e6, e7, rfl, hp', _⟩ := hs'
        obtain ⟨qa, qc, rfl, hsq, h1, h2, h3, h4⟩ := hp'
        refine ⟨qa, (l[k - 1]'(by omega)).1.length, qc, (l[k - 1]'(by omega)).1, ?_, fun wx hb => ⟨?_, ?_⟩⟩
        · unfold stepA
          rw [adrL_at l hlt, adrL_at l (k := k - 1) (by omega)]
          have : (k == 0) = false := by simp; omega
          rw [this]
          rfl
        · have := hr' 0 _ rfl
          exact (World.cell?_of_block (hb.block b hbr)).trans this
        · exact conv_seg qc (hsq.grow hb)
      have HSt0 : Hid (k = 0 → stepA (adrL l) k = addrB (l[k]).1) := fun h0 => by
        subst h0
        unfold stepA
        rw [adrL_at l hlt]
        simp
      have HSx : Hid (addrB (l[k]).1 = false → stepA (adrL l) k = false) := fun h0 => by
        unfold stepA
        rw [adrL_at l hlt, h0]
        rfl
      have HEn : Hid (entB d s0 l[k] = (mapB d (l[k]).2.1 && (addrsB (l[k]).2.2.1 && (decide (1 ≤ (l[k]).2.2.2.2) && decide ((l[k]).2.2.2.2 ≤ s0))))) := rfl
      have HFn : Hid (stepA (adrL l) k = true → entB d s0 l[k] = true → FstS d s0 l (k + 1)) := fun h1 h2 => fstS_next hFst.out hlt h1 h2
      have HNo : Hid (stepA (adrL l) k = false ∨ entB d s0 l[k] = false → ans = false) := fun h => HBad.out k hlt h
      have HSn0 : Hid (∀ wx, Below wr.heap.size wr wx → wx.cell? ⟨w.heap.size, 0, none⟩ = some (.int .i64 s0) ∧ wx.cell? ⟨w.heap.size, 4, none⟩ = some (.slice (some ⟨b, off, none⟩) ll ec)) := fun wx hb => by
        obtain ⟨f0, f1, f2, f3, f4⟩ := HSb.out _ (Below.on HBel.out hb)
        exact ⟨f0, f4⟩
      have HBel2 : Hid (∀ wx, Below wr.heap.size wr wx → Below W1.heap.size W1 wx) := fun wx hb => Below.on HBel.out hb
      clear ht hv hkk hs hat hA2 hFst HL
      generalize mapB d (l[k]).2.1 = mb at *
      generalize addrsB (l[k]).2.2.1 = db at *
      generalize hab0 : addrB (l[k]).1 = ab at *
      generalize (l[k]).2.2.1.length = dl at *
      generalize (l[k]).2.2.2.1 = tn at *
      generalize (l[k]).2.2.2.2 = tu at *
      obtain ⟨al, hal⟩ : ∃ al, al = (l[k]).1.length := ⟨_, rfl⟩
      rw [← hal] at hr HAd HCv HW
      clear hal hab0
      generalize (l[k]).1 = xs at *
      go_wp2_with (refine wpList_load_mid rfl 51 (.tmp 77) (by rfl) b (off + k * 9) (by rfl) [.slice na al np, .int .i64 bk, .int .i64 bn, .slice a2 l2 p2, .slice a3 l3 p3, .slice a4 l4 p4, .slice xa dl xp, .bool tn, .int .i64 tu] _ hr Tryz.underlying51 rfl (by kernel_rfl) ?_)
      have HWB : Hid (Below wr.heap.size wr (wr.alloc (.cells #[.slice na al np, .int .i64 bk, .int .i64 bn, .slice a2 l2 p2, .slice a3 l3 p3, .slice a4 l4 p4, .slice xa dl xp, .bool tn, .int .i64 tu] 51))) := HAa.out _
      have HWR : Hid ((wr.alloc (.cells #[.slice na al np, .int .i64 bk, .int .i64 bn, .slice a2 l2 p2, .slice a3 l3 p3, .slice a4 l4 p4, .slice xa dl xp, .bool tn, .int .i64 tu] 51)).heap[wr.heap.size]? = some (.cells #[.slice na al np, .int .i64 bk, .int .i64 bn, .slice a2 l2 p2, .slice a3 l3 p3, .slice a4 l4 p4, .slice xa dl xp, .bool tn, .int .i64 tu] 51 (0, 0))) := (MapKept.heap_alloc wr _).1
      clear hr HW HAa f0 f1 f2 f3 f4
      generalize wr.alloc (.cells #[.slice na al np, .int .i64 bk, .int .i64 bn, .slice a2 l2 p2, .slice a3 l3 p3, .slice a4 l4 p4, .slice xa dl xp, .bool tn, .int .i64 tu] 51) = W at *
      have hebW : wr.heap.size < W.heap.size := (Array.getElem?_eq_some_iff.1 HWR.out).1
      have HWd : Hid (∀ wx, Below W.drew.heap.size W.drew wx → Below wr.heap.size wr wx) := fun wx hb => Below.on HWB.out.drew hb
      have HBx : Hid (∀ wx, Below W.drew.heap.size W.drew wx → wx.heap[wr.heap.size]? = some (.cells #[.slice na al np, .int .i64 bk, .int .i64 bn, .slice a2 l2 p2, .slice a3 l3 p3, .slice a4 l4 p4, .slice xa dl xp, .bool tn, .int .i64 tu] 51 (0, 0))) := fun wx hb => (hb.block _ hebW).trans HWR.out
      replace HAd : Hid (∀ wx, Below W.drew.heap.size W.drew wx → Calls Tryz.prog 42 #[.slice na al np] wx fun e w' => e = .returned (.bool ab) ∧ wx = w') := fun wx hb => HAd.out wx (HWd.out wx hb)
      replace HMp : Hid (∀ wx, Below W.drew.heap.size W.drew wx → Calls Tryz.prog 43 #[.agg #[.int .i64 bk, .int .i64 bn, .slice a2 l2 p2, .slice a3 l3 p3, .slice a4 l4 p4]] wx fun e w' => e = .returned (.bool mb) ∧ Below wx.heap.size wx w') := fun wx hb => HMp.out wx (HWd.out wx hb)
      replace HDs : Hid (∀ wx, Below W.drew.heap.size W.drew wx → Calls Tryz.prog 44 #[.slice xa dl xp] wx fun e w' => e = .returned (.bool db) ∧ Below wx.heap.size wx w') := fun wx hb => HDs.out wx (HWd.out wx hb)
      have HBw : Hid (Below w.heap.size w W.drew) := HW0.out _ (HBel2.out _ (HWd.out _ (Below.refl _ _)))
      have HBl : Hid (∀ wx, Below W.drew.heap.size W.drew wx → Below W1.heap.size W1 wx) := fun wx hb => HBel2.out wx (HWd.out wx hb)
      have HSn : Hid (∀ wx, Below W.drew.heap.size W.drew wx → wx.cell? ⟨wr.heap.size, 0, none⟩ = some (.slice na al np) ∧ wx.cell? ⟨wr.heap.size, 1, none⟩ = some (.int .i64 bk) ∧ wx.cell? ⟨wr.heap.size, 2, none⟩ = some (.int .i64 bn) ∧ wx.cell? ⟨wr.heap.size, 3, none⟩ = some (.slice a2 l2 p2) ∧ wx.cell? ⟨wr.heap.size, 4, none⟩ = some (.slice a3 l3 p3) ∧ wx.cell? ⟨wr.heap.size, 5, none⟩ = some (.slice a4 l4 p4) ∧ wx.cell? ⟨wr.heap.size, 6, none⟩ = some (.slice xa dl xp) ∧ wx.cell? ⟨wr.heap.size, 7, none⟩ = some (.bool tn) ∧ wx.cell? ⟨wr.heap.size, 8, none⟩ = some (.int .i64 tu) ∧ wx.cell? ⟨w.heap.size, 0, none⟩ = some (.int .i64 s0)) := fun wx hb => by
        obtain ⟨e0, e1, e2, e3, e4, e5, e6, e7, e8⟩ := ev_row (HBx.out wx hb)
        exact ⟨e0, e1, e2, e3, e4, e5, e6, e7, e8, (HSn0.out wx (HWd.out wx hb)).1⟩
      have HNx : Hid (0 < k → ∃ (qa : Option Addr) (ql qc : Nat) (zs : List Int), stepA (adrL l) k = (ab && ltS zs xs) ∧ ∀ wx, Below W.drew.heap.size W.drew wx → wx.cell? ⟨wr.heap.size, 0, none⟩ = some (.slice na al np) ∧ wx.cell? ⟨wr.heap.size, 1, none⟩ = some (.int .i64 bk) ∧ wx.cell? ⟨wr.heap.size, 2, none⟩ = some (.int .i64 bn) ∧ wx.cell? ⟨wr.heap.size, 3, none⟩ = some (.slice a2 l2 p2) ∧ wx.cell? ⟨wr.heap.size, 4, none⟩ = some (.slice a3 l3 p3) ∧ wx.cell? ⟨wr.heap.size, 5, none⟩ = some (.slice a4 l4 p4) ∧ wx.cell? ⟨wr.heap.size, 6, none⟩ = some (.slice xa dl xp) ∧ wx.cell? ⟨wr.heap.size, 7, none⟩ = some (.bool tn) ∧ wx.cell? ⟨wr.heap.size, 8, none⟩ = some (.int .i64 tu) ∧ wx.cell? ⟨w.heap.size, 0, none⟩ = some (.int .i64 s0) ∧ wx.cell? ⟨w.heap.size, 4, none⟩ = some (.slice (some ⟨b, off, none⟩) ll ec) ∧ (convert 22 9 (.slice na al np)).run Tryz.prog wx = .ok (.string (strOf xs)) wx ∧ wx.cell? ⟨b, off + (k - 1) * 9, none⟩ = some (.slice qa ql qc) ∧ (convert 22 9 (.slice qa ql qc)).run Tryz.prog wx = .ok (.string (strOf zs)) wx) := fun h0 => by
        obtain ⟨qa, ql, qc, zs, h1, h2⟩ := HNx0.out h0
        refine ⟨qa, ql, qc, zs, h1, fun wx hb => ?_⟩
        obtain ⟨e0, e1, e2, e3, e4, e5, e6, e7, e8⟩ := ev_row (HBx.out wx hb)
        exact ⟨e0, e1, e2, e3, e4, e5, e6, e7, e8, (HSn0.out wx (HWd.out wx hb)).1, (HSn0.out wx (HWd.out wx hb)).2, HCv.out wx (HWd.out wx hb), (h2 wx (HWd.out wx hb)).1, (h2 wx (HWd.out wx hb)).2⟩
      generalize hebq : wr.heap.size = eb at *
      clear HNx0 HCv HBx HWd HWR HWB HSn0 HBel2 HBel hebq HSb
      cases ab with
      | false =>
        have HF1 : Hid (ans = false) := HNo.out (.inl (HSx.out rfl))
        refine wp_region_held_drew (S := fun w' => w'.cell? ⟨eb, 0, none⟩ = some (.slice na al np) ∧ w'.cell? ⟨eb, 1, none⟩ = some (.int .i64 bk) ∧ w'.cell? ⟨eb, 2, none⟩ = some (.int .i64 bn) ∧ w'.cell? ⟨eb, 3, none⟩ = some (.slice a2 l2 p2) ∧ w'.cell? ⟨eb, 4, none⟩ = some (.slice a3 l3 p3) ∧ w'.cell? ⟨eb, 5, none⟩ = some (.slice a4 l4 p4) ∧ w'.cell? ⟨eb, 6, none⟩ = some (.slice xa dl xp) ∧ w'.cell? ⟨eb, 7, none⟩ = some (.bool tn) ∧ w'.cell? ⟨eb, 8, none⟩ = some (.int .i64 tu) ∧ w'.cell? ⟨w.heap.size, 0, none⟩ = some (.int .i64 s0)) (by kernel_rfl) (HSn.out _ (Below.refl _ _)) (fun hHeld => ?_)
        refine tkY 0 79 hHeld ?_; simp only [Act.put, List.setIfInBounds_toArray, List.set_cons_zero, List.set_cons_succ]
        refine tkY 1 80 hHeld ?_; simp only [Act.put, List.setIfInBounds_toArray, List.set_cons_zero, List.set_cons_succ]
        refine wpAnyH_ready (rs := [2]) (by kernel_rfl) (by simp) ?_
        refine AllReadyH.cons rfl (fun K hK => ?_) AllReadyH.nil
        go_simp
        go_at_call 42
        refine (HAd.out _ (Below.refl _ _)).mono ?_
        rintro e w5 ⟨rfl, e5⟩
        obtain rfl := e5
        have hS := hHeld
        go_wp2_with fail
        refine hK.out _ _ hS (fun hHeld => ?_)
        clear hK
        (try simp only [Act.put, List.setIfInBounds_toArray, List.set_cons_zero, List.set_cons_succ])
        refine tkY 3 82 hHeld ?_; simp only [Act.put, List.setIfInBounds_toArray, List.set_cons_zero, List.set_cons_succ]
        refine tkY 4 83 hHeld ?_; simp only [Act.put, List.setIfInBounds_toArray, List.set_cons_zero, List.set_cons_succ]
        refine tkN 5 84 hHeld ?_
        refine tkN 6 85 hHeld ?_
        refine tkN 7 86 hHeld ?_
        refine tkN 8 87 hHeld ?_; simp only [Act.put, List.setIfInBounds_toArray, List.set_cons_zero, List.set_cons_succ]
        refine tkY 9 88 hHeld ?_; simp only [Act.put, List.setIfInBounds_toArray, List.set_cons_zero, List.set_cons_succ]
        refine tkY 10 89 hHeld ?_; simp only [Act.put, List.setIfInBounds_toArray, List.set_cons_zero, List.set_cons_succ]
        refine tkN 11 90 hHeld ?_
        refine tkN 12 91 hHeld ?_
        refine tkN 13 92 hHeld ?_
        refine tkN 14 93 hHeld ?_; simp only [Act.put, List.setIfInBounds_toArray, List.set_cons_zero, List.set_cons_succ]
        refine tkY 15 94 hHeld ?_; simp only [Act.put, List.setIfInBounds_toArray, List.set_cons_zero, List.set_cons_succ]
        refine tkY 16 95 hHeld ?_; simp only [Act.put, List.setIfInBounds_toArray, List.set_cons_zero, List.set_cons_succ]
        refine tkN 17 96 hHeld ?_
        refine tkN 18 97 hHeld ?_
        refine tkN 19 98 hHeld ?_; simp only [Act.put, List.setIfInBounds_toArray, List.set_cons_zero, List.set_cons_succ]
        refine tkY 20 99 hHeld ?_; simp only [Act.put, List.setIfInBounds_toArray, List.set_cons_zero, List.set_cons_succ]
        refine tkY 21 100 hHeld ?_; simp only [Act.put, List.setIfInBounds_toArray, List.set_cons_zero, List.set_cons_succ]
        refine tkN 22 101 hHeld ?_
        refine tkN 23 102 hHeld ?_
        refine tkN 24 103 hHeld ?_
        refine tkN 25 104 hHeld ?_
        refine tkN 26 105 hHeld ?_; simp only [Act.put, List.setIfInBounds_toArray, List.set_cons_zero, List.set_cons_succ]
        refine tkY 27 106 hHeld ?_; simp only [Act.put, List.setIfInBounds_toArray, List.set_cons_zero, List.set_cons_succ]
        refine tkY 28 107 hHeld ?_; simp only [Act.put, List.setIfInBounds_toArray, List.set_cons_zero, List.set_cons_succ]
        refine tkN 29 108 hHeld ?_
        refine tkN 30 109 hHeld ?_
        refine tkN 31 110 hHeld ?_
        refine tkN 32 111 hHeld ?_
        refine tkN 33 112 hHeld ?_
        refine tkN 34 113 hHeld ?_
        refine tkN 35 114 hHeld ?_
        refine tkN 36 115 hHeld ?_
        refine tkN 37 116 hHeld ?_
        refine tkN 38 117 hHeld ?_
        refine tkN 39 118 hHeld ?_
        refine tkN 40 119 hHeld ?_
        refine tkN 41 120 hHeld ?_
        refine tkN 42 121 hHeld ?_
        refine tkN 43 122 hHeld ?_
        refine tkN 44 123 hHeld ?_; simp only [Act.put, List.setIfInBounds_toArray, List.set_cons_zero, List.set_cons_succ]
        refine tkY 45 124 hHeld ?_; simp only [Act.put, List.setIfInBounds_toArray, List.set_cons_zero, List.set_cons_succ]
        refine wpAnyH_done (by kernel_rfl) ?_ _
        have HF : Hid (ans = false) := HF1.out
        have HBF := hide' HBw.out
        clear HBw
        go_wp2
        go_ret
        exact ⟨ret_bool HF.out.symm, HBF.out⟩
      | true =>
        cases mb with
        | false =>
          refine wp_region_held_drew (S := fun w' => w'.cell? ⟨eb, 0, none⟩ = some (.slice na al np) ∧ w'.cell? ⟨eb, 1, none⟩ = some (.int .i64 bk) ∧ w'.cell? ⟨eb, 2, none⟩ = some (.int .i64 bn) ∧ w'.cell? ⟨eb, 3, none⟩ = some (.slice a2 l2 p2) ∧ w'.cell? ⟨eb, 4, none⟩ = some (.slice a3 l3 p3) ∧ w'.cell? ⟨eb, 5, none⟩ = some (.slice a4 l4 p4) ∧ w'.cell? ⟨eb, 6, none⟩ = some (.slice xa dl xp) ∧ w'.cell? ⟨eb, 7, none⟩ = some (.bool tn) ∧ w'.cell? ⟨eb, 8, none⟩ = some (.int .i64 tu) ∧ w'.cell? ⟨w.heap.size, 0, none⟩ = some (.int .i64 s0)) (by kernel_rfl) (HSn.out _ (Below.refl _ _)) (fun hHeld => ?_)
          refine tkY 0 79 hHeld ?_; simp only [Act.put, List.setIfInBounds_toArray, List.set_cons_zero, List.set_cons_succ]
          refine tkY 1 80 hHeld ?_; simp only [Act.put, List.setIfInBounds_toArray, List.set_cons_zero, List.set_cons_succ]
          refine wpAnyH_ready (rs := [2]) (by kernel_rfl) (by simp) ?_
          refine AllReadyH.cons rfl (fun K hK => ?_) AllReadyH.nil
          go_simp
          go_at_call 42
          refine (HAd.out _ (Below.refl _ _)).mono ?_
          rintro e w5 ⟨rfl, e5⟩
          obtain rfl := e5
          have hS := hHeld
          go_wp2_with fail
          refine hK.out _ _ hS (fun hHeld => ?_)
          clear hK
          (try simp only [Act.put, List.setIfInBounds_toArray, List.set_cons_zero, List.set_cons_succ])
          refine tkY 3 82 hHeld ?_; simp only [Act.put, List.setIfInBounds_toArray, List.set_cons_zero, List.set_cons_succ]
          refine tkY 4 83 hHeld ?_; simp only [Act.put, List.setIfInBounds_toArray, List.set_cons_zero, List.set_cons_succ]
          refine tkY 5 84 hHeld ?_; simp only [Act.put, List.setIfInBounds_toArray, List.set_cons_zero, List.set_cons_succ]
          refine tkY 6 85 hHeld ?_; simp only [Act.put, List.setIfInBounds_toArray, List.set_cons_zero, List.set_cons_succ]
          refine wpAnyH_ready (rs := [7]) (by kernel_rfl) (by simp) ?_
          refine AllReadyH.cons rfl (fun K hK => ?_) AllReadyH.nil
          go_simp
          go_at_call 43
          refine (HMp.out _ (Below.refl _ _)).mono ?_
          rintro e w6 ⟨rfl, b6⟩
          have hS := HSn.out w6 b6
          go_wp2_with fail
          refine hK.out _ _ hS (fun hHeld => ?_)
          clear hK
          (try simp only [Act.put, List.setIfInBounds_toArray, List.set_cons_zero, List.set_cons_succ])
          refine tkY 8 87 hHeld ?_; simp only [Act.put, List.setIfInBounds_toArray, List.set_cons_zero, List.set_cons_succ]
          refine tkY 9 88 hHeld ?_; simp only [Act.put, List.setIfInBounds_toArray, List.set_cons_zero, List.set_cons_succ]
          refine tkY 10 89 hHeld ?_; simp only [Act.put, List.setIfInBounds_toArray, List.set_cons_zero, List.set_cons_succ]
          refine tkN 11 90 hHeld ?_
          refine tkN 12 91 hHeld ?_
          refine tkN 13 92 hHeld ?_
          refine tkN 14 93 hHeld ?_; simp only [Act.put, List.setIfInBounds_toArray, List.set_cons_zero, List.set_cons_succ]
          refine tkY 15 94 hHeld ?_; simp only [Act.put, List.setIfInBounds_toArray, List.set_cons_zero, List.set_cons_succ]
          refine tkY 16 95 hHeld ?_; simp only [Act.put, List.setIfInBounds_toArray, List.set_cons_zero, List.set_cons_succ]
          refine tkN 17 96 hHeld ?_
          refine tkN 18 97 hHeld ?_
          refine tkN 19 98 hHeld ?_; simp only [Act.put, List.setIfInBounds_toArray, List.set_cons_zero, List.set_cons_succ]
          refine tkY 20 99 hHeld ?_; simp only [Act.put, List.setIfInBounds_toArray, List.set_cons_zero, List.set_cons_succ]
          refine tkY 21 100 hHeld ?_; simp only [Act.put, List.setIfInBounds_toArray, List.set_cons_zero, List.set_cons_succ]
          refine tkN 22 101 hHeld ?_
          refine tkN 23 102 hHeld ?_
          refine tkN 24 103 hHeld ?_
          refine tkN 25 104 hHeld ?_
          refine tkN 26 105 hHeld ?_; simp only [Act.put, List.setIfInBounds_toArray, List.set_cons_zero, List.set_cons_succ]
          refine tkY 27 106 hHeld ?_; simp only [Act.put, List.setIfInBounds_toArray, List.set_cons_zero, List.set_cons_succ]
          refine tkY 28 107 hHeld ?_; simp only [Act.put, List.setIfInBounds_toArray, List.set_cons_zero, List.set_cons_succ]
          refine tkN 29 108 hHeld ?_
          refine tkN 30 109 hHeld ?_
          refine tkN 31 110 hHeld ?_
          refine tkN 32 111 hHeld ?_
          refine tkN 33 112 hHeld ?_
          refine tkN 34 113 hHeld ?_
          refine tkN 35 114 hHeld ?_
          refine tkN 36 115 hHeld ?_
          refine tkN 37 116 hHeld ?_
          refine tkN 38 117 hHeld ?_
          refine tkN 39 118 hHeld ?_
          refine tkN 40 119 hHeld ?_
          refine tkN 41 120 hHeld ?_
          refine tkN 42 121 hHeld ?_
          refine tkN 43 122 hHeld ?_
          refine tkN 44 123 hHeld ?_; simp only [Act.put, List.setIfInBounds_toArray, List.set_cons_zero, List.set_cons_succ]
          refine tkY 45 124 hHeld ?_; simp only [Act.put, List.setIfInBounds_toArray, List.set_cons_zero, List.set_cons_succ]
          refine wpAnyH_done (by kernel_rfl) ?_ _
          have HF : Hid (ans = false) := HNo.out (.inr (by rw [HEn.out]; rfl))
          have HBF := hide' (Below.on HBw.out b6)
          clear HBw
          go_wp2
          go_ret
          exact ⟨ret_bool HF.out.symm, HBF.out⟩
        | true =>
          cases db with
          | false =>
            refine wp_region_held_drew (S := fun w' => w'.cell? ⟨eb, 0, none⟩ = some (.slice na al np) ∧ w'.cell? ⟨eb, 1, none⟩ = some (.int .i64 bk) ∧ w'.cell? ⟨eb, 2, none⟩ = some (.int .i64 bn) ∧ w'.cell? ⟨eb, 3, none⟩ = some (.slice a2 l2 p2) ∧ w'.cell? ⟨eb, 4, none⟩ = some (.slice a3 l3 p3) ∧ w'.cell? ⟨eb, 5, none⟩ = some (.slice a4 l4 p4) ∧ w'.cell? ⟨eb, 6, none⟩ = some (.slice xa dl xp) ∧ w'.cell? ⟨eb, 7, none⟩ = some (.bool tn) ∧ w'.cell? ⟨eb, 8, none⟩ = some (.int .i64 tu) ∧ w'.cell? ⟨w.heap.size, 0, none⟩ = some (.int .i64 s0)) (by kernel_rfl) (HSn.out _ (Below.refl _ _)) (fun hHeld => ?_)
            refine tkY 0 79 hHeld ?_; simp only [Act.put, List.setIfInBounds_toArray, List.set_cons_zero, List.set_cons_succ]
            refine tkY 1 80 hHeld ?_; simp only [Act.put, List.setIfInBounds_toArray, List.set_cons_zero, List.set_cons_succ]
            refine wpAnyH_ready (rs := [2]) (by kernel_rfl) (by simp) ?_
            refine AllReadyH.cons rfl (fun K hK => ?_) AllReadyH.nil
            go_simp
            go_at_call 42
            refine (HAd.out _ (Below.refl _ _)).mono ?_
            rintro e w5 ⟨rfl, e5⟩
            obtain rfl := e5
            have hS := hHeld
            go_wp2_with fail
            refine hK.out _ _ hS (fun hHeld => ?_)
            clear hK
            (try simp only [Act.put, List.setIfInBounds_toArray, List.set_cons_zero, List.set_cons_succ])
            refine tkY 3 82 hHeld ?_; simp only [Act.put, List.setIfInBounds_toArray, List.set_cons_zero, List.set_cons_succ]
            refine tkY 4 83 hHeld ?_; simp only [Act.put, List.setIfInBounds_toArray, List.set_cons_zero, List.set_cons_succ]
            refine tkY 5 84 hHeld ?_; simp only [Act.put, List.setIfInBounds_toArray, List.set_cons_zero, List.set_cons_succ]
            refine tkY 6 85 hHeld ?_; simp only [Act.put, List.setIfInBounds_toArray, List.set_cons_zero, List.set_cons_succ]
            refine wpAnyH_ready (rs := [7]) (by kernel_rfl) (by simp) ?_
            refine AllReadyH.cons rfl (fun K hK => ?_) AllReadyH.nil
            go_simp
            go_at_call 43
            refine (HMp.out _ (Below.refl _ _)).mono ?_
            rintro e w6 ⟨rfl, b6⟩
            have hS := HSn.out w6 b6
            go_wp2_with fail
            refine hK.out _ _ hS (fun hHeld => ?_)
            clear hK
            (try simp only [Act.put, List.setIfInBounds_toArray, List.set_cons_zero, List.set_cons_succ])
            refine tkY 8 87 hHeld ?_; simp only [Act.put, List.setIfInBounds_toArray, List.set_cons_zero, List.set_cons_succ]
            refine tkY 9 88 hHeld ?_; simp only [Act.put, List.setIfInBounds_toArray, List.set_cons_zero, List.set_cons_succ]
            refine tkY 10 89 hHeld ?_; simp only [Act.put, List.setIfInBounds_toArray, List.set_cons_zero, List.set_cons_succ]
            refine tkY 11 90 hHeld ?_; simp only [Act.put, List.setIfInBounds_toArray, List.set_cons_zero, List.set_cons_succ]
            refine tkY 12 91 hHeld ?_; simp only [Act.put, List.setIfInBounds_toArray, List.set_cons_zero, List.set_cons_succ]
            refine wpAnyH_ready (rs := [13]) (by kernel_rfl) (by simp) ?_
            refine AllReadyH.cons rfl (fun K hK => ?_) AllReadyH.nil
            go_simp
            go_at_call 44
            refine (HDs.out _ b6).mono ?_
            rintro e w7 ⟨rfl, b7⟩
            have hS := HSn.out w7 (Below.on b6 b7)
            go_wp2_with fail
            refine hK.out _ _ hS (fun hHeld => ?_)
            clear hK
            (try simp only [Act.put, List.setIfInBounds_toArray, List.set_cons_zero, List.set_cons_succ])
            refine tkY 14 93 hHeld ?_; simp only [Act.put, List.setIfInBounds_toArray, List.set_cons_zero, List.set_cons_succ]
            refine tkY 15 94 hHeld ?_; simp only [Act.put, List.setIfInBounds_toArray, List.set_cons_zero, List.set_cons_succ]
            refine tkY 16 95 hHeld ?_; simp only [Act.put, List.setIfInBounds_toArray, List.set_cons_zero, List.set_cons_succ]
            refine tkN 17 96 hHeld ?_
            refine tkN 18 97 hHeld ?_
            refine tkN 19 98 hHeld ?_; simp only [Act.put, List.setIfInBounds_toArray, List.set_cons_zero, List.set_cons_succ]
            refine tkY 20 99 hHeld ?_; simp only [Act.put, List.setIfInBounds_toArray, List.set_cons_zero, List.set_cons_succ]
            refine tkY 21 100 hHeld ?_; simp only [Act.put, List.setIfInBounds_toArray, List.set_cons_zero, List.set_cons_succ]
            refine tkN 22 101 hHeld ?_
            refine tkN 23 102 hHeld ?_
            refine tkN 24 103 hHeld ?_
            refine tkN 25 104 hHeld ?_
            refine tkN 26 105 hHeld ?_; simp only [Act.put, List.setIfInBounds_toArray, List.set_cons_zero, List.set_cons_succ]
            refine tkY 27 106 hHeld ?_; simp only [Act.put, List.setIfInBounds_toArray, List.set_cons_zero, List.set_cons_succ]
            refine tkY 28 107 hHeld ?_; simp only [Act.put, List.setIfInBounds_toArray, List.set_cons_zero, List.set_cons_succ]
            refine tkN 29 108 hHeld ?_
            refine tkN 30 109 hHeld ?_
            refine tkN 31 110 hHeld ?_
            refine tkN 32 111 hHeld ?_
            refine tkN 33 112 hHeld ?_
            refine tkN 34 113 hHeld ?_
            refine tkN 35 114 hHeld ?_
            refine tkN 36 115 hHeld ?_
            refine tkN 37 116 hHeld ?_
            refine tkN 38 117 hHeld ?_
            refine tkN 39 118 hHeld ?_
            refine tkN 40 119 hHeld ?_
            refine tkN 41 120 hHeld ?_
            refine tkN 42 121 hHeld ?_
            refine tkN 43 122 hHeld ?_
            refine tkN 44 123 hHeld ?_; simp only [Act.put, List.setIfInBounds_toArray, List.set_cons_zero, List.set_cons_succ]
            refine tkY 45 124 hHeld ?_; simp only [Act.put, List.setIfInBounds_toArray, List.set_cons_zero, List.set_cons_succ]
            refine wpAnyH_done (by kernel_rfl) ?_ _
            have HF : Hid (ans = false) := HNo.out (.inr (by rw [HEn.out]; rfl))
            have HBF := hide' (Below.on HBw.out (Below.on b6 b7))
            clear HBw
            go_wp2
            go_ret
            exact ⟨ret_bool HF.out.symm, HBF.out⟩
          | true =>
            by_cases ht1 : tu < 1
            · have hd1 : decide (tu < 1) = true := decide_eq_true ht1
              have HT1 := hide' ht1
              clear ht1
              refine wp_region_held_drew (S := fun w' => w'.cell? ⟨eb, 0, none⟩ = some (.slice na al np) ∧ w'.cell? ⟨eb, 1, none⟩ = some (.int .i64 bk) ∧ w'.cell? ⟨eb, 2, none⟩ = some (.int .i64 bn) ∧ w'.cell? ⟨eb, 3, none⟩ = some (.slice a2 l2 p2) ∧ w'.cell? ⟨eb, 4, none⟩ = some (.slice a3 l3 p3) ∧ w'.cell? ⟨eb, 5, none⟩ = some (.slice a4 l4 p4) ∧ w'.cell? ⟨eb, 6, none⟩ = some (.slice xa dl xp) ∧ w'.cell? ⟨eb, 7, none⟩ = some (.bool tn) ∧ w'.cell? ⟨eb, 8, none⟩ = some (.int .i64 tu) ∧ w'.cell? ⟨w.heap.size, 0, none⟩ = some (.int .i64 s0)) (by kernel_rfl) (HSn.out _ (Below.refl _ _)) (fun hHeld => ?_)
              refine tkY 0 79 hHeld ?_; simp only [Act.put, List.setIfInBounds_toArray, List.set_cons_zero, List.set_cons_succ]
              refine tkY 1 80 hHeld ?_; simp only [Act.put, List.setIfInBounds_toArray, List.set_cons_zero, List.set_cons_succ]
              refine wpAnyH_ready (rs := [2]) (by kernel_rfl) (by simp) ?_
              refine AllReadyH.cons rfl (fun K hK => ?_) AllReadyH.nil
              go_simp
              go_at_call 42
              refine (HAd.out _ (Below.refl _ _)).mono ?_
              rintro e w5 ⟨rfl, e5⟩
              obtain rfl := e5
              have hS := hHeld
              go_wp2_with fail
              refine hK.out _ _ hS (fun hHeld => ?_)
              clear hK
              (try simp only [Act.put, List.setIfInBounds_toArray, List.set_cons_zero, List.set_cons_succ])
              refine tkY 3 82 hHeld ?_; simp only [Act.put, List.setIfInBounds_toArray, List.set_cons_zero, List.set_cons_succ]
              refine tkY 4 83 hHeld ?_; simp only [Act.put, List.setIfInBounds_toArray, List.set_cons_zero, List.set_cons_succ]
              refine tkY 5 84 hHeld ?_; simp only [Act.put, List.setIfInBounds_toArray, List.set_cons_zero, List.set_cons_succ]
              refine tkY 6 85 hHeld ?_; simp only [Act.put, List.setIfInBounds_toArray, List.set_cons_zero, List.set_cons_succ]
              refine wpAnyH_ready (rs := [7]) (by kernel_rfl) (by simp) ?_
              refine AllReadyH.cons rfl (fun K hK => ?_) AllReadyH.nil
              go_simp
              go_at_call 43
              refine (HMp.out _ (Below.refl _ _)).mono ?_
              rintro e w6 ⟨rfl, b6⟩
              have hS := HSn.out w6 b6
              go_wp2_with fail
              refine hK.out _ _ hS (fun hHeld => ?_)
              clear hK
              (try simp only [Act.put, List.setIfInBounds_toArray, List.set_cons_zero, List.set_cons_succ])
              refine tkY 8 87 hHeld ?_; simp only [Act.put, List.setIfInBounds_toArray, List.set_cons_zero, List.set_cons_succ]
              refine tkY 9 88 hHeld ?_; simp only [Act.put, List.setIfInBounds_toArray, List.set_cons_zero, List.set_cons_succ]
              refine tkY 10 89 hHeld ?_; simp only [Act.put, List.setIfInBounds_toArray, List.set_cons_zero, List.set_cons_succ]
              refine tkY 11 90 hHeld ?_; simp only [Act.put, List.setIfInBounds_toArray, List.set_cons_zero, List.set_cons_succ]
              refine tkY 12 91 hHeld ?_; simp only [Act.put, List.setIfInBounds_toArray, List.set_cons_zero, List.set_cons_succ]
              refine wpAnyH_ready (rs := [13]) (by kernel_rfl) (by simp) ?_
              refine AllReadyH.cons rfl (fun K hK => ?_) AllReadyH.nil
              go_simp
              go_at_call 44
              refine (HDs.out _ b6).mono ?_
              rintro e w7 ⟨rfl, b7⟩
              have hS := HSn.out w7 (Below.on b6 b7)
              go_wp2_with fail
              refine hK.out _ _ hS (fun hHeld => ?_)
              clear hK
              (try simp only [Act.put, List.setIfInBounds_toArray, List.set_cons_zero, List.set_cons_succ])
              refine tkY 14 93 hHeld ?_; simp only [Act.put, List.setIfInBounds_toArray, List.set_cons_zero, List.set_cons_succ]
              refine tkY 15 94 hHeld ?_; simp only [Act.put, List.setIfInBounds_toArray, List.set_cons_zero, List.set_cons_succ]
              refine tkY 16 95 hHeld ?_; simp only [Act.put, List.setIfInBounds_toArray, List.set_cons_zero, List.set_cons_succ]
              refine tkY 17 96 hHeld ?_; simp only [Act.put, List.setIfInBounds_toArray, List.set_cons_zero, List.set_cons_succ]
              refine tkY 18 97 hHeld ?_; simp only [Act.put, List.setIfInBounds_toArray, List.set_cons_zero, List.set_cons_succ]
              refine tkY 19 98 hHeld ?_; simp only [Act.put, List.setIfInBounds_toArray, List.set_cons_zero, List.set_cons_succ]
              refine tkY 20 99 hHeld ?_; simp only [Act.put, List.setIfInBounds_toArray, List.set_cons_zero, List.set_cons_succ]
              refine tkY 21 100 hHeld ?_; simp only [Act.put, List.setIfInBounds_toArray, List.set_cons_zero, List.set_cons_succ]
              refine tkN 22 101 hHeld ?_
              refine tkN 23 102 hHeld ?_
              refine tkN 24 103 hHeld ?_
              refine tkN 25 104 hHeld ?_
              refine tkN 26 105 hHeld ?_; simp only [Act.put, List.setIfInBounds_toArray, List.set_cons_zero, List.set_cons_succ]
              refine tkY 27 106 hHeld ?_; simp only [Act.put, List.setIfInBounds_toArray, List.set_cons_zero, List.set_cons_succ]
              refine tkY 28 107 hHeld ?_; simp only [Act.put, List.setIfInBounds_toArray, List.set_cons_zero, List.set_cons_succ]
              refine tkN 29 108 hHeld ?_
              refine tkN 30 109 hHeld ?_
              refine tkN 31 110 hHeld ?_
              refine tkN 32 111 hHeld ?_
              refine tkN 33 112 hHeld ?_
              refine tkN 34 113 hHeld ?_
              refine tkN 35 114 hHeld ?_
              refine tkN 36 115 hHeld ?_
              refine tkN 37 116 hHeld ?_
              refine tkN 38 117 hHeld ?_
              refine tkN 39 118 hHeld ?_
              refine tkN 40 119 hHeld ?_
              refine tkN 41 120 hHeld ?_
              refine tkN 42 121 hHeld ?_
              refine tkN 43 122 hHeld ?_
              refine tkN 44 123 hHeld ?_; simp only [Act.put, List.setIfInBounds_toArray, List.set_cons_zero, List.set_cons_succ]
              refine tkY 45 124 hHeld ?_; simp only [Act.put, List.setIfInBounds_toArray, List.set_cons_zero, List.set_cons_succ]
              refine wpAnyH_done (by kernel_rfl) ?_ _
              have HF : Hid (ans = false) := HNo.out (.inr (by rw [HEn.out, decide_eq_false (p := (1 : Int) ≤ tu) (by have := HT1.out; omega)]; rfl))
              have HBF := hide' (Below.on HBw.out (Below.on b6 b7))
              clear HBw
              go_wp2
              go_ret
              exact ⟨ret_bool HF.out.symm, HBF.out⟩
            · have hd1 : decide (tu < 1) = false := decide_eq_false ht1
              have HT1 := hide' ht1
              clear ht1
              by_cases ht2 : s0 < tu
              · have hd2 : decide (s0 < tu) = true := decide_eq_true ht2
                have HT2 := hide' ht2
                clear ht2
                refine wp_region_held_drew (S := fun w' => w'.cell? ⟨eb, 0, none⟩ = some (.slice na al np) ∧ w'.cell? ⟨eb, 1, none⟩ = some (.int .i64 bk) ∧ w'.cell? ⟨eb, 2, none⟩ = some (.int .i64 bn) ∧ w'.cell? ⟨eb, 3, none⟩ = some (.slice a2 l2 p2) ∧ w'.cell? ⟨eb, 4, none⟩ = some (.slice a3 l3 p3) ∧ w'.cell? ⟨eb, 5, none⟩ = some (.slice a4 l4 p4) ∧ w'.cell? ⟨eb, 6, none⟩ = some (.slice xa dl xp) ∧ w'.cell? ⟨eb, 7, none⟩ = some (.bool tn) ∧ w'.cell? ⟨eb, 8, none⟩ = some (.int .i64 tu) ∧ w'.cell? ⟨w.heap.size, 0, none⟩ = some (.int .i64 s0)) (by kernel_rfl) (HSn.out _ (Below.refl _ _)) (fun hHeld => ?_)
                refine tkY 0 79 hHeld ?_; simp only [Act.put, List.setIfInBounds_toArray, List.set_cons_zero, List.set_cons_succ]
                refine tkY 1 80 hHeld ?_; simp only [Act.put, List.setIfInBounds_toArray, List.set_cons_zero, List.set_cons_succ]
                refine wpAnyH_ready (rs := [2]) (by kernel_rfl) (by simp) ?_
                refine AllReadyH.cons rfl (fun K hK => ?_) AllReadyH.nil
                go_simp
                go_at_call 42
                refine (HAd.out _ (Below.refl _ _)).mono ?_
                rintro e w5 ⟨rfl, e5⟩
                obtain rfl := e5
                have hS := hHeld
                go_wp2_with fail
                refine hK.out _ _ hS (fun hHeld => ?_)
                clear hK
                (try simp only [Act.put, List.setIfInBounds_toArray, List.set_cons_zero, List.set_cons_succ])
                refine tkY 3 82 hHeld ?_; simp only [Act.put, List.setIfInBounds_toArray, List.set_cons_zero, List.set_cons_succ]
                refine tkY 4 83 hHeld ?_; simp only [Act.put, List.setIfInBounds_toArray, List.set_cons_zero, List.set_cons_succ]
                refine tkY 5 84 hHeld ?_; simp only [Act.put, List.setIfInBounds_toArray, List.set_cons_zero, List.set_cons_succ]
                refine tkY 6 85 hHeld ?_; simp only [Act.put, List.setIfInBounds_toArray, List.set_cons_zero, List.set_cons_succ]
                refine wpAnyH_ready (rs := [7]) (by kernel_rfl) (by simp) ?_
                refine AllReadyH.cons rfl (fun K hK => ?_) AllReadyH.nil
                go_simp
                go_at_call 43
                refine (HMp.out _ (Below.refl _ _)).mono ?_
                rintro e w6 ⟨rfl, b6⟩
                have hS := HSn.out w6 b6
                go_wp2_with fail
                refine hK.out _ _ hS (fun hHeld => ?_)
                clear hK
                (try simp only [Act.put, List.setIfInBounds_toArray, List.set_cons_zero, List.set_cons_succ])
                refine tkY 8 87 hHeld ?_; simp only [Act.put, List.setIfInBounds_toArray, List.set_cons_zero, List.set_cons_succ]
                refine tkY 9 88 hHeld ?_; simp only [Act.put, List.setIfInBounds_toArray, List.set_cons_zero, List.set_cons_succ]
                refine tkY 10 89 hHeld ?_; simp only [Act.put, List.setIfInBounds_toArray, List.set_cons_zero, List.set_cons_succ]
                refine tkY 11 90 hHeld ?_; simp only [Act.put, List.setIfInBounds_toArray, List.set_cons_zero, List.set_cons_succ]
                refine tkY 12 91 hHeld ?_; simp only [Act.put, List.setIfInBounds_toArray, List.set_cons_zero, List.set_cons_succ]
                refine wpAnyH_ready (rs := [13]) (by kernel_rfl) (by simp) ?_
                refine AllReadyH.cons rfl (fun K hK => ?_) AllReadyH.nil
                go_simp
                go_at_call 44
                refine (HDs.out _ b6).mono ?_
                rintro e w7 ⟨rfl, b7⟩
                have hS := HSn.out w7 (Below.on b6 b7)
                go_wp2_with fail
                refine hK.out _ _ hS (fun hHeld => ?_)
                clear hK
                (try simp only [Act.put, List.setIfInBounds_toArray, List.set_cons_zero, List.set_cons_succ])
                refine tkY 14 93 hHeld ?_; simp only [Act.put, List.setIfInBounds_toArray, List.set_cons_zero, List.set_cons_succ]
                refine tkY 15 94 hHeld ?_; simp only [Act.put, List.setIfInBounds_toArray, List.set_cons_zero, List.set_cons_succ]
                refine tkY 16 95 hHeld ?_; simp only [Act.put, List.setIfInBounds_toArray, List.set_cons_zero, List.set_cons_succ]
                refine tkY 17 96 hHeld ?_; simp only [Act.put, List.setIfInBounds_toArray, List.set_cons_zero, List.set_cons_succ]
                refine tkY 18 97 hHeld ?_; simp only [Act.put, List.setIfInBounds_toArray, List.set_cons_zero, List.set_cons_succ]
                refine tkY 19 98 hHeld ?_; simp only [Act.put, List.setIfInBounds_toArray, List.set_cons_zero, List.set_cons_succ]
                refine tkY 20 99 hHeld ?_; simp only [Act.put, List.setIfInBounds_toArray, List.set_cons_zero, List.set_cons_succ]
                refine tkY 21 100 hHeld ?_; simp only [Act.put, List.setIfInBounds_toArray, List.set_cons_zero, List.set_cons_succ]
                refine tkY 22 101 hHeld ?_; simp only [Act.put, List.setIfInBounds_toArray, List.set_cons_zero, List.set_cons_succ]
                refine tkY 23 102 hHeld ?_; simp only [Act.put, List.setIfInBounds_toArray, List.set_cons_zero, List.set_cons_succ]
                refine tkY 24 103 hHeld ?_; simp only [Act.put, List.setIfInBounds_toArray, List.set_cons_zero, List.set_cons_succ]
                refine tkY 25 104 hHeld ?_; simp only [Act.put, List.setIfInBounds_toArray, List.set_cons_zero, List.set_cons_succ]
                refine tkY 26 105 hHeld ?_; simp only [Act.put, List.setIfInBounds_toArray, List.set_cons_zero, List.set_cons_succ]
                refine tkY 27 106 hHeld ?_; simp only [Act.put, List.setIfInBounds_toArray, List.set_cons_zero, List.set_cons_succ]
                refine tkY 28 107 hHeld ?_; simp only [Act.put, List.setIfInBounds_toArray, List.set_cons_zero, List.set_cons_succ]
                refine tkN 29 108 hHeld ?_
                refine tkN 30 109 hHeld ?_
                refine tkN 31 110 hHeld ?_
                refine tkN 32 111 hHeld ?_
                refine tkN 33 112 hHeld ?_
                refine tkN 34 113 hHeld ?_
                refine tkN 35 114 hHeld ?_
                refine tkN 36 115 hHeld ?_
                refine tkN 37 116 hHeld ?_
                refine tkN 38 117 hHeld ?_
                refine tkN 39 118 hHeld ?_
                refine tkN 40 119 hHeld ?_
                refine tkN 41 120 hHeld ?_
                refine tkN 42 121 hHeld ?_
                refine tkN 43 122 hHeld ?_
                refine tkN 44 123 hHeld ?_; simp only [Act.put, List.setIfInBounds_toArray, List.set_cons_zero, List.set_cons_succ]
                refine tkY 45 124 hHeld ?_; simp only [Act.put, List.setIfInBounds_toArray, List.set_cons_zero, List.set_cons_succ]
                refine wpAnyH_done (by kernel_rfl) ?_ _
                have HF : Hid (ans = false) := HNo.out (.inr (by rw [HEn.out, decide_eq_false (p := tu ≤ s0) (by have := HT2.out; omega)]; simp))
                have HBF := hide' (Below.on HBw.out (Below.on b6 b7))
                clear HBw
                go_wp2
                go_ret
                exact ⟨ret_bool HF.out.symm, HBF.out⟩
              · have hd2 : decide (s0 < tu) = false := decide_eq_false ht2
                have HT2 := hide' ht2
                clear ht2
                have HEn2 : Hid (entB d s0 l[k] = true) := by
                  show entB d s0 l[k] = true
                  rw [HEn.out, decide_eq_true (p := (1 : Int) ≤ tu) (by have := HT1.out; omega), decide_eq_true (p := tu ≤ s0) (by have := HT2.out; omega)]
                  rfl
                cases k with
                | zero =>
                  have HF := hide' (HFn.out (HSt0.out rfl) HEn2.out)
                  refine wp_region_held_drew (S := fun w' => w'.cell? ⟨eb, 0, none⟩ = some (.slice na al np) ∧ w'.cell? ⟨eb, 1, none⟩ = some (.int .i64 bk) ∧ w'.cell? ⟨eb, 2, none⟩ = some (.int .i64 bn) ∧ w'.cell? ⟨eb, 3, none⟩ = some (.slice a2 l2 p2) ∧ w'.cell? ⟨eb, 4, none⟩ = some (.slice a3 l3 p3) ∧ w'.cell? ⟨eb, 5, none⟩ = some (.slice a4 l4 p4) ∧ w'.cell? ⟨eb, 6, none⟩ = some (.slice xa dl xp) ∧ w'.cell? ⟨eb, 7, none⟩ = some (.bool tn) ∧ w'.cell? ⟨eb, 8, none⟩ = some (.int .i64 tu) ∧ w'.cell? ⟨w.heap.size, 0, none⟩ = some (.int .i64 s0)) (by kernel_rfl) (HSn.out _ (Below.refl _ _)) (fun hHeld => ?_)
                  refine tkY 0 79 hHeld ?_; simp only [Act.put, List.setIfInBounds_toArray, List.set_cons_zero, List.set_cons_succ]
                  refine tkY 1 80 hHeld ?_; simp only [Act.put, List.setIfInBounds_toArray, List.set_cons_zero, List.set_cons_succ]
                  refine wpAnyH_ready (rs := [2]) (by kernel_rfl) (by simp) ?_
                  refine AllReadyH.cons rfl (fun K hK => ?_) AllReadyH.nil
                  go_simp
                  go_at_call 42
                  refine (HAd.out _ (Below.refl _ _)).mono ?_
                  rintro e w5 ⟨rfl, e5⟩
                  obtain rfl := e5
                  have hS := hHeld
                  go_wp2_with fail
                  refine hK.out _ _ hS (fun hHeld => ?_)
                  clear hK
                  (try simp only [Act.put, List.setIfInBounds_toArray, List.set_cons_zero, List.set_cons_succ])
                  refine tkY 3 82 hHeld ?_; simp only [Act.put, List.setIfInBounds_toArray, List.set_cons_zero, List.set_cons_succ]
                  refine tkY 4 83 hHeld ?_; simp only [Act.put, List.setIfInBounds_toArray, List.set_cons_zero, List.set_cons_succ]
                  refine tkY 5 84 hHeld ?_; simp only [Act.put, List.setIfInBounds_toArray, List.set_cons_zero, List.set_cons_succ]
                  refine tkY 6 85 hHeld ?_; simp only [Act.put, List.setIfInBounds_toArray, List.set_cons_zero, List.set_cons_succ]
                  refine wpAnyH_ready (rs := [7]) (by kernel_rfl) (by simp) ?_
                  refine AllReadyH.cons rfl (fun K hK => ?_) AllReadyH.nil
                  go_simp
                  go_at_call 43
                  refine (HMp.out _ (Below.refl _ _)).mono ?_
                  rintro e w6 ⟨rfl, b6⟩
                  have hS := HSn.out w6 b6
                  go_wp2_with fail
                  refine hK.out _ _ hS (fun hHeld => ?_)
                  clear hK
                  (try simp only [Act.put, List.setIfInBounds_toArray, List.set_cons_zero, List.set_cons_succ])
                  refine tkY 8 87 hHeld ?_; simp only [Act.put, List.setIfInBounds_toArray, List.set_cons_zero, List.set_cons_succ]
                  refine tkY 9 88 hHeld ?_; simp only [Act.put, List.setIfInBounds_toArray, List.set_cons_zero, List.set_cons_succ]
                  refine tkY 10 89 hHeld ?_; simp only [Act.put, List.setIfInBounds_toArray, List.set_cons_zero, List.set_cons_succ]
                  refine tkY 11 90 hHeld ?_; simp only [Act.put, List.setIfInBounds_toArray, List.set_cons_zero, List.set_cons_succ]
                  refine tkY 12 91 hHeld ?_; simp only [Act.put, List.setIfInBounds_toArray, List.set_cons_zero, List.set_cons_succ]
                  refine wpAnyH_ready (rs := [13]) (by kernel_rfl) (by simp) ?_
                  refine AllReadyH.cons rfl (fun K hK => ?_) AllReadyH.nil
                  go_simp
                  go_at_call 44
                  refine (HDs.out _ b6).mono ?_
                  rintro e w7 ⟨rfl, b7⟩
                  have hS := HSn.out w7 (Below.on b6 b7)
                  go_wp2_with fail
                  refine hK.out _ _ hS (fun hHeld => ?_)
                  clear hK
                  (try simp only [Act.put, List.setIfInBounds_toArray, List.set_cons_zero, List.set_cons_succ])
                  refine tkY 14 93 hHeld ?_; simp only [Act.put, List.setIfInBounds_toArray, List.set_cons_zero, List.set_cons_succ]
                  refine tkY 15 94 hHeld ?_; simp only [Act.put, List.setIfInBounds_toArray, List.set_cons_zero, List.set_cons_succ]
                  refine tkY 16 95 hHeld ?_; simp only [Act.put, List.setIfInBounds_toArray, List.set_cons_zero, List.set_cons_succ]
                  refine tkY 17 96 hHeld ?_; simp only [Act.put, List.setIfInBounds_toArray, List.set_cons_zero, List.set_cons_succ]
                  refine tkY 18 97 hHeld ?_; simp only [Act.put, List.setIfInBounds_toArray, List.set_cons_zero, List.set_cons_succ]
                  refine tkY 19 98 hHeld ?_; simp only [Act.put, List.setIfInBounds_toArray, List.set_cons_zero, List.set_cons_succ]
                  refine tkY 20 99 hHeld ?_; simp only [Act.put, List.setIfInBounds_toArray, List.set_cons_zero, List.set_cons_succ]
                  refine tkY 21 100 hHeld ?_; simp only [Act.put, List.setIfInBounds_toArray, List.set_cons_zero, List.set_cons_succ]
                  refine tkY 22 101 hHeld ?_; simp only [Act.put, List.setIfInBounds_toArray, List.set_cons_zero, List.set_cons_succ]
                  refine tkY 23 102 hHeld ?_; simp only [Act.put, List.setIfInBounds_toArray, List.set_cons_zero, List.set_cons_succ]
                  refine tkY 24 103 hHeld ?_; simp only [Act.put, List.setIfInBounds_toArray, List.set_cons_zero, List.set_cons_succ]
                  refine tkY 25 104 hHeld ?_; simp only [Act.put, List.setIfInBounds_toArray, List.set_cons_zero, List.set_cons_succ]
                  refine tkY 26 105 hHeld ?_; simp only [Act.put, List.setIfInBounds_toArray, List.set_cons_zero, List.set_cons_succ]
                  refine tkY 27 106 hHeld ?_; simp only [Act.put, List.setIfInBounds_toArray, List.set_cons_zero, List.set_cons_succ]
                  refine tkY 28 107 hHeld ?_; simp only [Act.put, List.setIfInBounds_toArray, List.set_cons_zero, List.set_cons_succ]
                  refine tkY 29 108 hHeld ?_; simp only [Act.put, List.setIfInBounds_toArray, List.set_cons_zero, List.set_cons_succ]
                  refine tkY 30 109 hHeld ?_; simp only [Act.put, List.setIfInBounds_toArray, List.set_cons_zero, List.set_cons_succ]
                  refine tkY 31 110 hHeld ?_; simp only [Act.put, List.setIfInBounds_toArray, List.set_cons_zero, List.set_cons_succ]
                  refine tkN 32 111 hHeld ?_
                  refine tkN 33 112 hHeld ?_
                  refine tkN 34 113 hHeld ?_
                  refine tkN 35 114 hHeld ?_
                  refine tkN 36 115 hHeld ?_
                  refine tkN 37 116 hHeld ?_
                  refine tkN 38 117 hHeld ?_
                  refine tkN 39 118 hHeld ?_
                  refine tkN 40 119 hHeld ?_
                  refine tkN 41 120 hHeld ?_
                  refine tkN 42 121 hHeld ?_
                  refine tkN 43 122 hHeld ?_; simp only [Act.put, List.setIfInBounds_toArray, List.set_cons_zero, List.set_cons_succ]
                  refine tkY 44 123 hHeld ?_; simp only [Act.put, List.setIfInBounds_toArray, List.set_cons_zero, List.set_cons_succ]
                  refine tkY 45 124 hHeld ?_; simp only [Act.put, List.setIfInBounds_toArray, List.set_cons_zero, List.set_cons_succ]
                  refine wpAnyH_done (by kernel_rfl) ?_ _
                  have HBF := hide' (HBl.out _ (Below.on b6 b7))
                  clear HBw HBl b6 b7
                  go_wp2
                  go_roundw
                  case rel => exact ⟨0 + 1, by omega, by go_num, HF, HBF⟩
                  case measure => simp [intOf]; omega
                | succ j =>
                  have hwk : IntKind.i64.wrap (((j + 1 : Nat) : Int) - 1) = (j : Int) := by rw [IntKind.wrap_i64]; omega
                  have hwk2 : IntKind.i64.wrap ((j : Int) + 1 - 1) = (j : Int) := by rw [IntKind.wrap_i64]; omega
                  have hwj : IntKind.i64.wrap (j : Int) = (j : Int) := by rw [IntKind.wrap_i64]; omega
                  have hj1 : (j : Int) < (ll : Int) := by have := hllc.out; omega
                  have hj3 : (0 : Int) ≤ (j : Int) := by omega
                  have hpos : decide ((0 : Int) < ((j + 1 : Nat) : Int)) = true := decide_eq_true (by omega)
                  have hpos2 : decide ((0 : Int) < (j : Int) + 1) = true := decide_eq_true (by omega)
                  obtain ⟨qa, ql, qc, zs, hst, HSn2⟩ := HNx.out (by omega)
                  rw [show j + 1 - 1 = j by omega] at HSn2
                  have hlc : Op.bytesLess (strOf zs).toList (strOf xs).toList = ltS zs xs := by rw [strOf_list, strOf_list]; rfl
                  clear HSn HNx
                  have HSn := hide' HSn2
                  clear HSn2
                  cases hcm : Op.bytesLess (strOf zs).toList (strOf xs).toList with
                  | true =>
                    have HF := hide' (HFn.out (by rw [hst, ← hlc, hcm]; rfl) HEn2.out)
                    clear hst hlc
                    refine wp_region_held_drew (S := fun w' => w'.cell? ⟨eb, 0, none⟩ = some (.slice na al np) ∧ w'.cell? ⟨eb, 1, none⟩ = some (.int .i64 bk) ∧ w'.cell? ⟨eb, 2, none⟩ = some (.int .i64 bn) ∧ w'.cell? ⟨eb, 3, none⟩ = some (.slice a2 l2 p2) ∧ w'.cell? ⟨eb, 4, none⟩ = some (.slice a3 l3 p3) ∧ w'.cell? ⟨eb, 5, none⟩ = some (.slice a4 l4 p4) ∧ w'.cell? ⟨eb, 6, none⟩ = some (.slice xa dl xp) ∧ w'.cell? ⟨eb, 7, none⟩ = some (.bool tn) ∧ w'.cell? ⟨eb, 8, none⟩ = some (.int .i64 tu) ∧ w'.cell? ⟨w.heap.size, 0, none⟩ = some (.int .i64 s0) ∧ w'.cell? ⟨w.heap.size, 4, none⟩ = some (.slice (some ⟨b, off, none⟩) ll ec) ∧ (convert 22 9 (.slice na al np)).run Tryz.prog w' = .ok (.string (strOf xs)) w' ∧ w'.cell? ⟨b, off + j * 9, none⟩ = some (.slice qa ql qc) ∧ (convert 22 9 (.slice qa ql qc)).run Tryz.prog w' = .ok (.string (strOf zs)) w') (by kernel_rfl) (HSn.out _ (Below.refl _ _)) (fun hHeld => ?_)
                    refine tkY 0 79 hHeld ?_; simp only [Act.put, List.setIfInBounds_toArray, List.set_cons_zero, List.set_cons_succ]
                    refine tkY 1 80 hHeld ?_; simp only [Act.put, List.setIfInBounds_toArray, List.set_cons_zero, List.set_cons_succ]
                    refine wpAnyH_ready (rs := [2]) (by kernel_rfl) (by simp) ?_
                    refine AllReadyH.cons rfl (fun K hK => ?_) AllReadyH.nil
                    go_simp
                    go_at_call 42
                    refine (HAd.out _ (Below.refl _ _)).mono ?_
                    rintro e w5 ⟨rfl, e5⟩
                    obtain rfl := e5
                    have hS := hHeld
                    go_wp2_with fail
                    refine hK.out _ _ hS (fun hHeld => ?_)
                    clear hK
                    (try simp only [Act.put, List.setIfInBounds_toArray, List.set_cons_zero, List.set_cons_succ])
                    refine tkY 3 82 hHeld ?_; simp only [Act.put, List.setIfInBounds_toArray, List.set_cons_zero, List.set_cons_succ]
                    refine tkY 4 83 hHeld ?_; simp only [Act.put, List.setIfInBounds_toArray, List.set_cons_zero, List.set_cons_succ]
                    refine tkY 5 84 hHeld ?_; simp only [Act.put, List.setIfInBounds_toArray, List.set_cons_zero, List.set_cons_succ]
                    refine tkY 6 85 hHeld ?_; simp only [Act.put, List.setIfInBounds_toArray, List.set_cons_zero, List.set_cons_succ]
                    refine wpAnyH_ready (rs := [7]) (by kernel_rfl) (by simp) ?_
                    refine AllReadyH.cons rfl (fun K hK => ?_) AllReadyH.nil
                    go_simp
                    go_at_call 43
                    refine (HMp.out _ (Below.refl _ _)).mono ?_
                    rintro e w6 ⟨rfl, b6⟩
                    have hS := HSn.out w6 b6
                    go_wp2_with fail
                    refine hK.out _ _ hS (fun hHeld => ?_)
                    clear hK
                    (try simp only [Act.put, List.setIfInBounds_toArray, List.set_cons_zero, List.set_cons_succ])
                    refine tkY 8 87 hHeld ?_; simp only [Act.put, List.setIfInBounds_toArray, List.set_cons_zero, List.set_cons_succ]
                    refine tkY 9 88 hHeld ?_; simp only [Act.put, List.setIfInBounds_toArray, List.set_cons_zero, List.set_cons_succ]
                    refine tkY 10 89 hHeld ?_; simp only [Act.put, List.setIfInBounds_toArray, List.set_cons_zero, List.set_cons_succ]
                    refine tkY 11 90 hHeld ?_; simp only [Act.put, List.setIfInBounds_toArray, List.set_cons_zero, List.set_cons_succ]
                    refine tkY 12 91 hHeld ?_; simp only [Act.put, List.setIfInBounds_toArray, List.set_cons_zero, List.set_cons_succ]
                    refine wpAnyH_ready (rs := [13]) (by kernel_rfl) (by simp) ?_
                    refine AllReadyH.cons rfl (fun K hK => ?_) AllReadyH.nil
                    go_simp
                    go_at_call 44
                    refine (HDs.out _ b6).mono ?_
                    rintro e w7 ⟨rfl, b7⟩
                    have hS := HSn.out w7 (Below.on b6 b7)
                    go_wp2_with fail
                    refine hK.out _ _ hS (fun hHeld => ?_)
                    clear hK
                    (try simp only [Act.put, List.setIfInBounds_toArray, List.set_cons_zero, List.set_cons_succ])
                    refine tkY 14 93 hHeld ?_; simp only [Act.put, List.setIfInBounds_toArray, List.set_cons_zero, List.set_cons_succ]
                    refine tkY 15 94 hHeld ?_; simp only [Act.put, List.setIfInBounds_toArray, List.set_cons_zero, List.set_cons_succ]
                    refine tkY 16 95 hHeld ?_; simp only [Act.put, List.setIfInBounds_toArray, List.set_cons_zero, List.set_cons_succ]
                    refine tkY 17 96 hHeld ?_; simp only [Act.put, List.setIfInBounds_toArray, List.set_cons_zero, List.set_cons_succ]
                    refine tkY 18 97 hHeld ?_; simp only [Act.put, List.setIfInBounds_toArray, List.set_cons_zero, List.set_cons_succ]
                    refine tkY 19 98 hHeld ?_; simp only [Act.put, List.setIfInBounds_toArray, List.set_cons_zero, List.set_cons_succ]
                    refine tkY 20 99 hHeld ?_; simp only [Act.put, List.setIfInBounds_toArray, List.set_cons_zero, List.set_cons_succ]
                    refine tkY 21 100 hHeld ?_; simp only [Act.put, List.setIfInBounds_toArray, List.set_cons_zero, List.set_cons_succ]
                    refine tkY 22 101 hHeld ?_; simp only [Act.put, List.setIfInBounds_toArray, List.set_cons_zero, List.set_cons_succ]
                    refine tkY 23 102 hHeld ?_; simp only [Act.put, List.setIfInBounds_toArray, List.set_cons_zero, List.set_cons_succ]
                    refine tkY 24 103 hHeld ?_; simp only [Act.put, List.setIfInBounds_toArray, List.set_cons_zero, List.set_cons_succ]
                    refine tkY 25 104 hHeld ?_; simp only [Act.put, List.setIfInBounds_toArray, List.set_cons_zero, List.set_cons_succ]
                    refine tkY 26 105 hHeld ?_; simp only [Act.put, List.setIfInBounds_toArray, List.set_cons_zero, List.set_cons_succ]
                    refine tkY 27 106 hHeld ?_; simp only [Act.put, List.setIfInBounds_toArray, List.set_cons_zero, List.set_cons_succ]
                    refine tkY 28 107 hHeld ?_; simp only [Act.put, List.setIfInBounds_toArray, List.set_cons_zero, List.set_cons_succ]
                    refine tkY 29 108 hHeld ?_; simp only [Act.put, List.setIfInBounds_toArray, List.set_cons_zero, List.set_cons_succ]
                    refine tkY 30 109 hHeld ?_; simp only [Act.put, List.setIfInBounds_toArray, List.set_cons_zero, List.set_cons_succ]
                    refine tkY 31 110 hHeld ?_; simp only [Act.put, List.setIfInBounds_toArray, List.set_cons_zero, List.set_cons_succ]
                    refine tkY 32 111 hHeld ?_; simp only [Act.put, List.setIfInBounds_toArray, List.set_cons_zero, List.set_cons_succ]
                    refine tkY 33 112 hHeld ?_; simp only [Act.put, List.setIfInBounds_toArray, List.set_cons_zero, List.set_cons_succ]
                    refine tkY 34 113 hHeld ?_; simp only [Act.put, List.setIfInBounds_toArray, List.set_cons_zero, List.set_cons_succ]
                    refine tkY 35 114 hHeld ?_; simp only [Act.put, List.setIfInBounds_toArray, List.set_cons_zero, List.set_cons_succ]
                    refine tkY 36 115 hHeld ?_; simp only [Act.put, List.setIfInBounds_toArray, List.set_cons_zero, List.set_cons_succ]
                    refine tkY 37 116 hHeld ?_; simp only [Act.put, List.setIfInBounds_toArray, List.set_cons_zero, List.set_cons_succ]
                    refine tkY 38 117 hHeld ?_; simp only [Act.put, List.setIfInBounds_toArray, List.set_cons_zero, List.set_cons_succ]
                    refine tkY 39 118 hHeld ?_; simp only [Act.put, List.setIfInBounds_toArray, List.set_cons_zero, List.set_cons_succ]
                    refine tkY 40 119 hHeld ?_; simp only [Act.put, List.setIfInBounds_toArray, List.set_cons_zero, List.set_cons_succ]
                    refine tkY 41 120 hHeld ?_; simp only [Act.put, List.setIfInBounds_toArray, List.set_cons_zero, List.set_cons_succ]
                    refine tkY 42 121 hHeld ?_; simp only [Act.put, List.setIfInBounds_toArray, List.set_cons_zero, List.set_cons_succ]
                    refine tkY 43 122 hHeld ?_; simp only [Act.put, List.setIfInBounds_toArray, List.set_cons_zero, List.set_cons_succ]
                    refine tkY 44 123 hHeld ?_; simp only [Act.put, List.setIfInBounds_toArray, List.set_cons_zero, List.set_cons_succ]
                    refine tkY 45 124 hHeld ?_; simp only [Act.put, List.setIfInBounds_toArray, List.set_cons_zero, List.set_cons_succ]
                    refine wpAnyH_done (by kernel_rfl) ?_ _
                    have HBF := hide' (HBl.out _ (Below.on b6 b7))
                    clear HBw HBl b6 b7
                    go_wp2
                    go_roundw
                    case rel => exact ⟨j + 1 + 1, by omega, by go_num, HF, HBF⟩
                    case measure => simp [intOf]; omega
                  | false =>
                    have HF : Hid (ans = false) := HNo.out (.inl (by rw [hst, ← hlc, hcm]; rfl))
                    clear hst hlc
                    refine wp_region_held_drew (S := fun w' => w'.cell? ⟨eb, 0, none⟩ = some (.slice na al np) ∧ w'.cell? ⟨eb, 1, none⟩ = some (.int .i64 bk) ∧ w'.cell? ⟨eb, 2, none⟩ = some (.int .i64 bn) ∧ w'.cell? ⟨eb, 3, none⟩ = some (.slice a2 l2 p2) ∧ w'.cell? ⟨eb, 4, none⟩ = some (.slice a3 l3 p3) ∧ w'.cell? ⟨eb, 5, none⟩ = some (.slice a4 l4 p4) ∧ w'.cell? ⟨eb, 6, none⟩ = some (.slice xa dl xp) ∧ w'.cell? ⟨eb, 7, none⟩ = some (.bool tn) ∧ w'.cell? ⟨eb, 8, none⟩ = some (.int .i64 tu) ∧ w'.cell? ⟨w.heap.size, 0, none⟩ = some (.int .i64 s0) ∧ w'.cell? ⟨w.heap.size, 4, none⟩ = some (.slice (some ⟨b, off, none⟩) ll ec) ∧ (convert 22 9 (.slice na al np)).run Tryz.prog w' = .ok (.string (strOf xs)) w' ∧ w'.cell? ⟨b, off + j * 9, none⟩ = some (.slice qa ql qc) ∧ (convert 22 9 (.slice qa ql qc)).run Tryz.prog w' = .ok (.string (strOf zs)) w') (by kernel_rfl) (HSn.out _ (Below.refl _ _)) (fun hHeld => ?_)
                    refine tkY 0 79 hHeld ?_; simp only [Act.put, List.setIfInBounds_toArray, List.set_cons_zero, List.set_cons_succ]
                    refine tkY 1 80 hHeld ?_; simp only [Act.put, List.setIfInBounds_toArray, List.set_cons_zero, List.set_cons_succ]
                    refine wpAnyH_ready (rs := [2]) (by kernel_rfl) (by simp) ?_
                    refine AllReadyH.cons rfl (fun K hK => ?_) AllReadyH.nil
                    go_simp
                    go_at_call 42
                    refine (HAd.out _ (Below.refl _ _)).mono ?_
                    rintro e w5 ⟨rfl, e5⟩
                    obtain rfl := e5
                    have hS := hHeld
                    go_wp2_with fail
                    refine hK.out _ _ hS (fun hHeld => ?_)
                    clear hK
                    (try simp only [Act.put, List.setIfInBounds_toArray, List.set_cons_zero, List.set_cons_succ])
                    refine tkY 3 82 hHeld ?_; simp only [Act.put, List.setIfInBounds_toArray, List.set_cons_zero, List.set_cons_succ]
                    refine tkY 4 83 hHeld ?_; simp only [Act.put, List.setIfInBounds_toArray, List.set_cons_zero, List.set_cons_succ]
                    refine tkY 5 84 hHeld ?_; simp only [Act.put, List.setIfInBounds_toArray, List.set_cons_zero, List.set_cons_succ]
                    refine tkY 6 85 hHeld ?_; simp only [Act.put, List.setIfInBounds_toArray, List.set_cons_zero, List.set_cons_succ]
                    refine wpAnyH_ready (rs := [7]) (by kernel_rfl) (by simp) ?_
                    refine AllReadyH.cons rfl (fun K hK => ?_) AllReadyH.nil
                    go_simp
                    go_at_call 43
                    refine (HMp.out _ (Below.refl _ _)).mono ?_
                    rintro e w6 ⟨rfl, b6⟩
                    have hS := HSn.out w6 b6
                    go_wp2_with fail
                    refine hK.out _ _ hS (fun hHeld => ?_)
                    clear hK
                    (try simp only [Act.put, List.setIfInBounds_toArray, List.set_cons_zero, List.set_cons_succ])
                    refine tkY 8 87 hHeld ?_; simp only [Act.put, List.setIfInBounds_toArray, List.set_cons_zero, List.set_cons_succ]
                    refine tkY 9 88 hHeld ?_; simp only [Act.put, List.setIfInBounds_toArray, List.set_cons_zero, List.set_cons_succ]
                    refine tkY 10 89 hHeld ?_; simp only [Act.put, List.setIfInBounds_toArray, List.set_cons_zero, List.set_cons_succ]
                    refine tkY 11 90 hHeld ?_; simp only [Act.put, List.setIfInBounds_toArray, List.set_cons_zero, List.set_cons_succ]
                    refine tkY 12 91 hHeld ?_; simp only [Act.put, List.setIfInBounds_toArray, List.set_cons_zero, List.set_cons_succ]
                    refine wpAnyH_ready (rs := [13]) (by kernel_rfl) (by simp) ?_
                    refine AllReadyH.cons rfl (fun K hK => ?_) AllReadyH.nil
                    go_simp
                    go_at_call 44
                    refine (HDs.out _ b6).mono ?_
                    rintro e w7 ⟨rfl, b7⟩
                    have hS := HSn.out w7 (Below.on b6 b7)
                    go_wp2_with fail
                    refine hK.out _ _ hS (fun hHeld => ?_)
                    clear hK
                    (try simp only [Act.put, List.setIfInBounds_toArray, List.set_cons_zero, List.set_cons_succ])
                    refine tkY 14 93 hHeld ?_; simp only [Act.put, List.setIfInBounds_toArray, List.set_cons_zero, List.set_cons_succ]
                    refine tkY 15 94 hHeld ?_; simp only [Act.put, List.setIfInBounds_toArray, List.set_cons_zero, List.set_cons_succ]
                    refine tkY 16 95 hHeld ?_; simp only [Act.put, List.setIfInBounds_toArray, List.set_cons_zero, List.set_cons_succ]
                    refine tkY 17 96 hHeld ?_; simp only [Act.put, List.setIfInBounds_toArray, List.set_cons_zero, List.set_cons_succ]
                    refine tkY 18 97 hHeld ?_; simp only [Act.put, List.setIfInBounds_toArray, List.set_cons_zero, List.set_cons_succ]
                    refine tkY 19 98 hHeld ?_; simp only [Act.put, List.setIfInBounds_toArray, List.set_cons_zero, List.set_cons_succ]
                    refine tkY 20 99 hHeld ?_; simp only [Act.put, List.setIfInBounds_toArray, List.set_cons_zero, List.set_cons_succ]
                    refine tkY 21 100 hHeld ?_; simp only [Act.put, List.setIfInBounds_toArray, List.set_cons_zero, List.set_cons_succ]
                    refine tkY 22 101 hHeld ?_; simp only [Act.put, List.setIfInBounds_toArray, List.set_cons_zero, List.set_cons_succ]
                    refine tkY 23 102 hHeld ?_; simp only [Act.put, List.setIfInBounds_toArray, List.set_cons_zero, List.set_cons_succ]
                    refine tkY 24 103 hHeld ?_; simp only [Act.put, List.setIfInBounds_toArray, List.set_cons_zero, List.set_cons_succ]
                    refine tkY 25 104 hHeld ?_; simp only [Act.put, List.setIfInBounds_toArray, List.set_cons_zero, List.set_cons_succ]
                    refine tkY 26 105 hHeld ?_; simp only [Act.put, List.setIfInBounds_toArray, List.set_cons_zero, List.set_cons_succ]
                    refine tkY 27 106 hHeld ?_; simp only [Act.put, List.setIfInBounds_toArray, List.set_cons_zero, List.set_cons_succ]
                    refine tkY 28 107 hHeld ?_; simp only [Act.put, List.setIfInBounds_toArray, List.set_cons_zero, List.set_cons_succ]
                    refine tkY 29 108 hHeld ?_; simp only [Act.put, List.setIfInBounds_toArray, List.set_cons_zero, List.set_cons_succ]
                    refine tkY 30 109 hHeld ?_; simp only [Act.put, List.setIfInBounds_toArray, List.set_cons_zero, List.set_cons_succ]
                    refine tkY 31 110 hHeld ?_; simp only [Act.put, List.setIfInBounds_toArray, List.set_cons_zero, List.set_cons_succ]
                    refine tkY 32 111 hHeld ?_; simp only [Act.put, List.setIfInBounds_toArray, List.set_cons_zero, List.set_cons_succ]
                    refine tkY 33 112 hHeld ?_; simp only [Act.put, List.setIfInBounds_toArray, List.set_cons_zero, List.set_cons_succ]
                    refine tkY 34 113 hHeld ?_; simp only [Act.put, List.setIfInBounds_toArray, List.set_cons_zero, List.set_cons_succ]
                    refine tkY 35 114 hHeld ?_; simp only [Act.put, List.setIfInBounds_toArray, List.set_cons_zero, List.set_cons_succ]
                    refine tkY 36 115 hHeld ?_; simp only [Act.put, List.setIfInBounds_toArray, List.set_cons_zero, List.set_cons_succ]
                    refine tkY 37 116 hHeld ?_; simp only [Act.put, List.setIfInBounds_toArray, List.set_cons_zero, List.set_cons_succ]
                    refine tkY 38 117 hHeld ?_; simp only [Act.put, List.setIfInBounds_toArray, List.set_cons_zero, List.set_cons_succ]
                    refine tkY 39 118 hHeld ?_; simp only [Act.put, List.setIfInBounds_toArray, List.set_cons_zero, List.set_cons_succ]
                    refine tkY 40 119 hHeld ?_; simp only [Act.put, List.setIfInBounds_toArray, List.set_cons_zero, List.set_cons_succ]
                    refine tkY 41 120 hHeld ?_; simp only [Act.put, List.setIfInBounds_toArray, List.set_cons_zero, List.set_cons_succ]
                    refine tkY 42 121 hHeld ?_; simp only [Act.put, List.setIfInBounds_toArray, List.set_cons_zero, List.set_cons_succ]
                    refine tkY 43 122 hHeld ?_; simp only [Act.put, List.setIfInBounds_toArray, List.set_cons_zero, List.set_cons_succ]
                    refine tkY 44 123 hHeld ?_; simp only [Act.put, List.setIfInBounds_toArray, List.set_cons_zero, List.set_cons_succ]
                    refine tkY 45 124 hHeld ?_; simp only [Act.put, List.setIfInBounds_toArray, List.set_cons_zero, List.set_cons_succ]
                    refine wpAnyH_done (by kernel_rfl) ?_ _
                    have HBF := hide' (Below.on HBw.out (Below.on b6 b7))
                    clear HBw
                    go_wp2
                    go_ret
                    exact ⟨ret_bool HF.out.symm, HBF.out⟩
  · have hq1 : (s3 == 1) = false := by simpa using h1
    have hq2 : decide (0 ≤ fk) = false := by exact decide_eq_false h2
    have hq3 : decide (fk ≥ 0) = false := hq2
    have HF : Hid (ans = false) := by show ans = false; rw [HSta.out, HPt0.out, hq2, decide_eq_false h1]; rfl
    clear HSta HPd HPt0 HBad0
    go_enter Tryz.func24, Tryz.ntmps24
    go_wp2_with fail
    refine (HAdP.out _ (HA1.out _)).mono ?_
    rintro e w2 ⟨rfl, rfl⟩
    go_wp2_with fail
    have HW1 := hide' (HA1.out (.cells #[.int .i64 s0, .bool true, .slice pa pl pc, .int .i64 s3, .slice ea ll ec] 31))
    have HR1 := hide' (Hbox.out (.cells #[.int .i64 s0, .bool true, .slice pa pl pc, .int .i64 s3, .slice ea ll ec] 31))
    generalize w.alloc (.cells #[.int .i64 s0, .bool true, .slice pa pl pc, .int .i64 s3, .slice ea ll ec] 31) = W1 at *
    have hsW : w.heap.size < W1.heap.size := (Array.getElem?_eq_some_iff.1 HR1.out).1
    have HSb : Hid (∀ wx, Below W1.heap.size W1 wx → wx.cell? ⟨w.heap.size, 0, none⟩ = some (.int .i64 s0) ∧ wx.cell? ⟨w.heap.size, 1, none⟩ = some (.bool true) ∧ wx.cell? ⟨w.heap.size, 2, none⟩ = some (.slice pa pl pc) ∧ wx.cell? ⟨w.heap.size, 3, none⟩ = some (.int .i64 s3) ∧ wx.cell? ⟨w.heap.size, 4, none⟩ = some (.slice ea ll ec)) := fun wx hb => five_row ((hb.block _ hsW).trans HR1.out)
    have HW0 : Hid (∀ wx, Below W1.heap.size W1 wx → Below w.heap.size w wx) := fun wx hb => Below.on HW1.out hb
    have hN1 : N ≤ W1.heap.size := by have := HNs.out; omega
    replace HNs : Hid (N ≤ W1.heap.size) := hN1
    clear hN1
    have HDr : Hid (∀ wx, Below W1.drew.heap.size W1.drew wx → Below W1.heap.size W1 wx) := fun wx hb => Below.on (Below.refl W1.heap.size W1).drew hb
    refine wp_region_held_drew (S := fun w' => w'.cell? ⟨w.heap.size, 0, none⟩ = some (.int .i64 s0) ∧ w'.cell? ⟨w.heap.size, 1, none⟩ = some (.bool true) ∧ w'.cell? ⟨w.heap.size, 2, none⟩ = some (.slice pa pl pc) ∧ w'.cell? ⟨w.heap.size, 3, none⟩ = some (.int .i64 s3) ∧ w'.cell? ⟨w.heap.size, 4, none⟩ = some (.slice ea ll ec)) (by kernel_rfl) (HSb.out _ (Below.refl W1.heap.size W1).drew) (fun hHeld => ?_)
    refine tkY 0 55 hHeld ?_; simp only [Act.put, List.setIfInBounds_toArray, List.set_cons_zero, List.set_cons_succ]
    refine tkY 1 56 hHeld ?_; simp only [Act.put, List.setIfInBounds_toArray, List.set_cons_zero, List.set_cons_succ]
    refine tkY 2 57 hHeld ?_; simp only [Act.put, List.setIfInBounds_toArray, List.set_cons_zero, List.set_cons_succ]
    refine tkY 3 58 hHeld ?_; simp only [Act.put, List.setIfInBounds_toArray, List.set_cons_zero, List.set_cons_succ]
    refine tkY 4 59 hHeld ?_; simp only [Act.put, List.setIfInBounds_toArray, List.set_cons_zero, List.set_cons_succ]
    refine tkY 5 60 hHeld ?_; simp only [Act.put, List.setIfInBounds_toArray, List.set_cons_zero, List.set_cons_succ]
    refine tkY 6 61 hHeld ?_; simp only [Act.put, List.setIfInBounds_toArray, List.set_cons_zero, List.set_cons_succ]
    refine tkY 7 62 hHeld ?_; simp only [Act.put, List.setIfInBounds_toArray, List.set_cons_zero, List.set_cons_succ]
    refine wpAnyH_ready (rs := [8]) (by kernel_rfl) (by simp) ?_
    refine AllReadyH.cons rfl (fun K hK => ?_) AllReadyH.nil
    go_simp
    go_at_call 34
    refine (HFi.out _ HW1.out.drew).mono ?_
    rintro e w3 ⟨rfl, b3⟩
    have hS := HSb.out w3 (HDr.out w3 b3)
    go_wp2_with fail
    refine hK.out _ _ hS (fun hHeld => ?_)
    clear hK
    (try simp only [Act.put, List.setIfInBounds_toArray, List.set_cons_zero, List.set_cons_succ])
    refine tkY 9 64 hHeld ?_; simp only [Act.put, List.setIfInBounds_toArray, List.set_cons_zero, List.set_cons_succ]
    refine tkY 10 65 hHeld ?_; simp only [Act.put, List.setIfInBounds_toArray, List.set_cons_zero, List.set_cons_succ]
    refine tkY 11 66 hHeld ?_; simp only [Act.put, List.setIfInBounds_toArray, List.set_cons_zero, List.set_cons_succ]
    refine wpAnyH_done (by kernel_rfl) ?_ _
    have B3 := hide' (HDr.out _ b3)
    clear b3 hHeld
    have HBF := hide' (HW0.out _ B3.out)
    go_wp2
    go_ret
    exact ⟨ret_bool HF.out.symm, HBF.out⟩
end Go.Proofs.YtngjhimieacjhaaGreatDoor
