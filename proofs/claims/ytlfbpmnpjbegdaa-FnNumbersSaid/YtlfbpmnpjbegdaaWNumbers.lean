/-
  FnNumbers answers true, whatever code it is handed; it makes new memory and turns nothing old.
-/
import Derived.Test.YtlfbpmnpjbegdaaDraw4
import Derived.Test.YtlfbpmnpjbegdaaRounds
import Derived.Deep.RegionHeld3
namespace Go.Proofs.Ytlfbpmnpjbegdaa
open Go.RowKit
set_option linter.unusedVariables false

/-- The last test of the law: what is read as a number is just its bytes. -/
def Rest (a : Option Addr) (c : Nat) (ns : List Int) (f : Int) : Prop := getNum ns f = (0, -1) ∨ ∃ k p j : Nat, f = p ∧ getNum ns f = ((k : Int), (j : Int)) ∧ k ≤ 2147483647 ∧ p < j ∧ j ≤ ns.length ∧ putNum (ns.take p) k = ns.take j

theorem rest_of (a : Option Addr) (c : Nat) (ns : List Int) (f : Int) (hb : ∀ x ∈ ns, Byt x) : Rest a c ns f := by
  rcases getNum_fits ns f hb with h | ⟨h0, h1, j, h2, h3, h4, h5⟩
  · exact .inl h
  · have e : getNum ns f = ((getNum ns f).1, (j : Int)) := by rw [← h2]
    obtain ⟨p, hp, hlt, hle, hput⟩ := putNum_got ns hb f _ j e
    refine .inr ⟨(getNum ns f).1.toNat, p, j, hp, ?_, by omega, hlt, hle, ?_⟩
    · rw [Int.toNat_of_nonneg h0]; exact e
    · rw [Int.toNat_of_nonneg h0]; exact hput

set_option maxHeartbeats 4000000 in
theorem walk_FnNumbers (a : Option Addr) (cap : Nat) (xs : List Int) (w : World) (ha : Seg w a xs) (hl : xs.length ≤ maxLen) :
    Calls Try.prog 3 #[.slice a xs.length cap] w fun e w' => e = .returned (.bool true) ∧ Below w.heap.size w w' := by
  go_enter Try.func3, Try.ntmps3
  go_wp2_with fail
  refine (DrawPutNum_any a cap xs _ ha hl).mono ?_
  rintro e w1 ⟨v1, ys, n, rfl, hv1, hyl, hn, b1⟩
  obtain ⟨a1, c1, rfl, s1, _, _, k1⟩ := hv1.seg_len
  go_wp2_with fail
  refine (impl_PutNum_any _ _ ys n _ s1 k1 (by omega)).mono ?_
  rintro e w2 ⟨v2, rfl, hv2, b2⟩
  obtain ⟨a2, c2, rfl, _, _, _, _⟩ := hv2.seg_len
  have hpl := putNum_len ys n
  have B2 := Below.on b1 b2
  have z1 := b1.size
  have z2 := b2.size
  have hS7 := seg_one w2 7 (by unfold Byt; omega)
  have b3 : Below w2.heap.size w2 (w2.alloc (.cells #[.int .u8 7] 5)) := (Below.refl _ _).alloc (Nat.le_refl _) _
  have hv3 := hv2.grow b3
  have B3 := Below.on B2 b3
  have hvo := hide hv3.own
  clear hv1 s1 b1 b2 hv2 B2 b3
  go_wp2_with (at_builtin; refine wpList_append_seg rfl (.tmp 26) (.tmp 27) rfl w1.heap.size _ (putNum ys n) [7] rfl hv3 (some ⟨w2.heap.size, 0, none⟩) 1 1 rfl rfl hS7 (by simp) (by simp; omega) (by simp; omega) ?_; intro v4 w4 hv4 hg4; obtain ⟨a4, c4, rfl, s4, _, _, _⟩ := hv4.seg_len)
  have B4 : Below w.heap.size w w4 := B3.grown hg4 B3.size (by intro j e; have h1 := unhide hvo _ e; omega)
  clear hv3 B3 hg4 hvo hS7 hv4
  have hC := impl_GetNum_any a4 c4 (putNum ys n ++ [7]) (ys.length : Nat) w4 s4 (by simp; omega) (by omega)
  have hl7 : (putNum ys n ++ [(7 : Int)]).length = (putNum ys n).length + 1 := by simp
  rw [hl7] at hC
  clear hl7
  have HC := hide hC
  clear hC
  refine (unhide HC).mono ?_
  rintro e w5 ⟨rfl, b5⟩
  have B5 := Below.on B4 b5
  have Hput : Hid (0 ≤ n → n ≤ 2147483647 → getNum (putNum ys n ++ [7]) (ys.length : Nat) = (n, (((putNum ys n).length : Nat) : Int))) := fun h0 h1 => getNum_put ys [7] n h0 h1
  clear B4 b5 HC s4
  generalize getNum (putNum ys n ++ [7]) (ys.length : Nat) = r at *
  generalize (putNum ys n).length = pl at *
  -- the first test does not hold
  have hT : (0 ≤ n ∧ n ≤ 2147483647 → r = (n, (pl : Int))) := fun h => Hput.out h.1 h.2
  clear Hput
  have hr : ∃ r1 r2 : Int, r = (r1, r2) ∧ (0 ≤ n ∧ n ≤ 2147483647 → r1 = n ∧ r2 = pl) := ⟨r.1, r.2, rfl, fun h => by rw [hT h]; exact ⟨rfl, rfl⟩⟩
  clear hT
  obtain ⟨r1, r2, rfl, hr⟩ := hr
  have Hr := hide hr
  clear hr
  by_cases hn0 : 0 ≤ n
  · by_cases hn1 : n ≤ 2147483647
    · obtain ⟨e1, e2⟩ := unhide Hr ⟨hn0, hn1⟩
      subst e1
      subst e2
      clear Hr
      go_wp2_with fail
      refine (DrawPutText_any a cap xs _ (ha.grow B5) hl).mono ?_
      rintro e w6 ⟨v6, v6b, cs, ts, rfl, hc6, ht6, hcl, htl, b6⟩
      obtain ⟨a6, c6, rfl, sc6, _, _, kc⟩ := hc6.seg_len
      obtain ⟨a6b, c6b, rfl, st6, _, _, kt⟩ := ht6.seg_len
      have B6 := Below.on B5 b6
      clear B5 b6 hc6 ht6
      go_wp2_with fail
      refine (impl_PutText_any _ _ _ _ cs ts _ sc6 st6 kc kt (by omega) (by omega)).mono ?_
      rintro e w7 ⟨v7, rfl, hv7, b7⟩
      obtain ⟨a7, c7, rfl, s7, hc7, hm7, _⟩ := hv7.seg_len
      have B7 := Below.on B6 b7
      have st7 := st6.grow b7
      have hql := putText_len cs ts
      clear B6 b7 sc6 st6 hv7
      have hG := impl_GetText_any a7 c7 (putText cs ts) (cs.length : Nat) w7 s7 hc7 hm7 (by omega) (by omega)
      by_cases htb : ts.length ≤ 20
      · rw [getText_put cs ts htb] at hG
        have HG := hide hG
        have htb' : (ts.length : Int) ≤ 20 := by omega
        have hdt : decide ((ts.length : Int) ≤ 20) = true := by simp; omega
        clear hG
        go_wp2_with fail
        refine (unhide HG).mono ?_
        rintro e w8 ⟨v8, rfl, hv8, b8⟩
        obtain ⟨a8, c8, rfl, s8, _, _, _⟩ := hv8.seg_len
        have B8 := Below.on B7 b8
        have st8 := st7.grow b8
        clear B7 b8 st7 hv8 HG
        go_wp2_with fail
        refine (laws_sameBytes_any _ _ _ _ ts ts _ s8 st8).mono ?_
        rintro e w8b ⟨rfl, e8⟩
        subst e8
        simp only [decide_true]
        go_wp2_with fail
        refine (DrawGetNum_any a cap xs _ (ha.grow B8) hl).mono ?_
        rintro e w9 ⟨v9, ns, f, rfl, hv9, hnl, hf, b9⟩
        have B9 := Below.on B8 b9
        clear B8 b9 s8 st8
        -- the last test
        obtain ⟨a9, c9, rfl, s9, hc9, hm9, k9⟩ := hv9.seg_len
        unfold maxLen at hm9
        have hR := rest_of a9 c9 ns f s9.1
        clear hv9
        go_wp2_with fail
        refine (impl_GetNum_any _ _ ns f _ s9 (by omega) hf).mono ?_
        rintro e w10 ⟨rfl, b10⟩
        have B10 := Below.on B9 b10
        have s10 := s9.grow b10
        clear B9 b10 s9
        rcases hR with hR | ⟨k, p, j, rfl, hR, hk, hpj, hjl, hput⟩
        · rw [hR]
          go_wp2
          go_quiet (fail)
          go_wp2
          go_ret
          exact ⟨rfl, below_drewN B10 _⟩
        · rw [hR]
          have hsl1 := fun wx => slice_to wx a9 ns.length c9 p (by omega)
          have hsl2 := fun wx => slice_to wx a9 ns.length c9 j (by omega)
          have hd : decide ((j : Int) < 0) = false := by simp
          have hP := impl_PutNum_any a9 c9 (ns.take p) k w10.drew (seg_take (show Seg w10.drew a9 ns from s10) p) k9 (by simp; omega)
          rw [hput, show (ns.take p).length = p from by simp; omega] at hP
          have HP := hide hP
          have hB : Below w.heap.size w w10.drew := B10.drew
          have hQ : ∀ (wx : World) (ap : Option Addr) (cp : Nat), Seg wx ap (ns.take j) → Seg wx a9 ns → Calls Try.prog 18 #[.slice ap j cp, .slice a9 j c9] wx fun e w' => e = .returned (.bool true) ∧ wx = w' := by
            intro wx ap cp h1 h2
            have h := laws_sameBytes_any ap a9 cp c9 (ns.take j) (ns.take j) wx h1 (seg_take h2 j)
            rw [show (ns.take j).length = j from by simp; omega] at h
            refine h.mono ?_
            rintro e w' ⟨rfl, rfl⟩
            exact ⟨by simp, rfl⟩
          have HQ := hide hQ
          have HL := hide (show (ns.take j).length = j from by simp; omega)
          have s10d : Seg w10.drew a9 ns := s10
          clear hP hQ hput hR B10 s10
          go_wp2_with fail
          go_region_held3 (fun _ => True) (trivial) (first | (go_at_call 13; refine (unhide HP).mono ?_; rintro e w11 ⟨v11, rfl, hv11, b11⟩; obtain ⟨a11, c11, rfl, s11, _, _, _⟩ := hv11.seg_len; rw [unhide HL]; have B11 := hB.trans (b11.mono (by have := hB.size; omega)); have s9b := s10d.grow b11; have hQ1 := hide (unhide HQ w11 a11 c11 s11 s9b); clear b11 hv11) | (go_at_call 18; refine (unhide hQ1).mono ?_; rintro e w12 ⟨rfl, e12⟩; subst e12))
          all_goals
            go_wp2
            go_ret
            exact ⟨rfl, B11⟩
      · have HG := hide hG
        have htb' : ¬ (ts.length : Int) ≤ 20 := by omega
        clear hG
        go_wp2_with fail
        refine (unhide HG).mono ?_
        rintro e w8 ⟨v8, rfl, hv8, b8⟩
        have B8 := Below.on B7 b8
        clear B7 b8 st7 hv8 HG
        go_wp2_with fail
        refine (DrawGetNum_any a cap xs _ (ha.grow B8) hl).mono ?_
        rintro e w9 ⟨v9, ns, f, rfl, hv9, hnl, hf, b9⟩
        have B9 := Below.on B8 b9
        clear B8 b9
        -- the last test
        obtain ⟨a9, c9, rfl, s9, hc9, hm9, k9⟩ := hv9.seg_len
        unfold maxLen at hm9
        have hR := rest_of a9 c9 ns f s9.1
        clear hv9
        go_wp2_with fail
        refine (impl_GetNum_any _ _ ns f _ s9 (by omega) hf).mono ?_
        rintro e w10 ⟨rfl, b10⟩
        have B10 := Below.on B9 b10
        have s10 := s9.grow b10
        clear B9 b10 s9
        rcases hR with hR | ⟨k, p, j, rfl, hR, hk, hpj, hjl, hput⟩
        · rw [hR]
          go_wp2
          go_quiet (fail)
          go_wp2
          go_ret
          exact ⟨rfl, below_drewN B10 _⟩
        · rw [hR]
          have hsl1 := fun wx => slice_to wx a9 ns.length c9 p (by omega)
          have hsl2 := fun wx => slice_to wx a9 ns.length c9 j (by omega)
          have hd : decide ((j : Int) < 0) = false := by simp
          have hP := impl_PutNum_any a9 c9 (ns.take p) k w10.drew (seg_take (show Seg w10.drew a9 ns from s10) p) k9 (by simp; omega)
          rw [hput, show (ns.take p).length = p from by simp; omega] at hP
          have HP := hide hP
          have hB : Below w.heap.size w w10.drew := B10.drew
          have hQ : ∀ (wx : World) (ap : Option Addr) (cp : Nat), Seg wx ap (ns.take j) → Seg wx a9 ns → Calls Try.prog 18 #[.slice ap j cp, .slice a9 j c9] wx fun e w' => e = .returned (.bool true) ∧ wx = w' := by
            intro wx ap cp h1 h2
            have h := laws_sameBytes_any ap a9 cp c9 (ns.take j) (ns.take j) wx h1 (seg_take h2 j)
            rw [show (ns.take j).length = j from by simp; omega] at h
            refine h.mono ?_
            rintro e w' ⟨rfl, rfl⟩
            exact ⟨by simp, rfl⟩
          have HQ := hide hQ
          have HL := hide (show (ns.take j).length = j from by simp; omega)
          have s10d : Seg w10.drew a9 ns := s10
          clear hP hQ hput hR B10 s10
          go_wp2_with fail
          go_region_held3 (fun _ => True) (trivial) (first | (go_at_call 13; refine (unhide HP).mono ?_; rintro e w11 ⟨v11, rfl, hv11, b11⟩; obtain ⟨a11, c11, rfl, s11, _, _, _⟩ := hv11.seg_len; rw [unhide HL]; have B11 := hB.trans (b11.mono (by have := hB.size; omega)); have s9b := s10d.grow b11; have hQ1 := hide (unhide HQ w11 a11 c11 s11 s9b); clear b11 hv11) | (go_at_call 18; refine (unhide hQ1).mono ?_; rintro e w12 ⟨rfl, e12⟩; subst e12))
          all_goals
            go_wp2
            go_ret
            exact ⟨rfl, B11⟩
    · clear Hr
      go_wp2_with fail
      refine (DrawPutText_any a cap xs _ (ha.grow B5) hl).mono ?_
      rintro e w6 ⟨v6, v6b, cs, ts, rfl, hc6, ht6, hcl, htl, b6⟩
      obtain ⟨a6, c6, rfl, sc6, _, _, kc⟩ := hc6.seg_len
      obtain ⟨a6b, c6b, rfl, st6, _, _, kt⟩ := ht6.seg_len
      have B6 := Below.on B5 b6
      clear B5 b6 hc6 ht6
      go_wp2_with fail
      refine (impl_PutText_any _ _ _ _ cs ts _ sc6 st6 kc kt (by omega) (by omega)).mono ?_
      rintro e w7 ⟨v7, rfl, hv7, b7⟩
      obtain ⟨a7, c7, rfl, s7, hc7, hm7, _⟩ := hv7.seg_len
      have B7 := Below.on B6 b7
      have st7 := st6.grow b7
      have hql := putText_len cs ts
      clear B6 b7 sc6 st6 hv7
      have hG := impl_GetText_any a7 c7 (putText cs ts) (cs.length : Nat) w7 s7 hc7 hm7 (by omega) (by omega)
      by_cases htb : ts.length ≤ 20
      · rw [getText_put cs ts htb] at hG
        have HG := hide hG
        have htb' : (ts.length : Int) ≤ 20 := by omega
        have hdt : decide ((ts.length : Int) ≤ 20) = true := by simp; omega
        clear hG
        go_wp2_with fail
        refine (unhide HG).mono ?_
        rintro e w8 ⟨v8, rfl, hv8, b8⟩
        obtain ⟨a8, c8, rfl, s8, _, _, _⟩ := hv8.seg_len
        have B8 := Below.on B7 b8
        have st8 := st7.grow b8
        clear B7 b8 st7 hv8 HG
        go_wp2_with fail
        refine (laws_sameBytes_any _ _ _ _ ts ts _ s8 st8).mono ?_
        rintro e w8b ⟨rfl, e8⟩
        subst e8
        simp only [decide_true]
        go_wp2_with fail
        refine (DrawGetNum_any a cap xs _ (ha.grow B8) hl).mono ?_
        rintro e w9 ⟨v9, ns, f, rfl, hv9, hnl, hf, b9⟩
        have B9 := Below.on B8 b9
        clear B8 b9 s8 st8
        -- the last test
        obtain ⟨a9, c9, rfl, s9, hc9, hm9, k9⟩ := hv9.seg_len
        unfold maxLen at hm9
        have hR := rest_of a9 c9 ns f s9.1
        clear hv9
        go_wp2_with fail
        refine (impl_GetNum_any _ _ ns f _ s9 (by omega) hf).mono ?_
        rintro e w10 ⟨rfl, b10⟩
        have B10 := Below.on B9 b10
        have s10 := s9.grow b10
        clear B9 b10 s9
        rcases hR with hR | ⟨k, p, j, rfl, hR, hk, hpj, hjl, hput⟩
        · rw [hR]
          go_wp2
          go_quiet (fail)
          go_wp2
          go_ret
          exact ⟨rfl, below_drewN B10 _⟩
        · rw [hR]
          have hsl1 := fun wx => slice_to wx a9 ns.length c9 p (by omega)
          have hsl2 := fun wx => slice_to wx a9 ns.length c9 j (by omega)
          have hd : decide ((j : Int) < 0) = false := by simp
          have hP := impl_PutNum_any a9 c9 (ns.take p) k w10.drew (seg_take (show Seg w10.drew a9 ns from s10) p) k9 (by simp; omega)
          rw [hput, show (ns.take p).length = p from by simp; omega] at hP
          have HP := hide hP
          have hB : Below w.heap.size w w10.drew := B10.drew
          have hQ : ∀ (wx : World) (ap : Option Addr) (cp : Nat), Seg wx ap (ns.take j) → Seg wx a9 ns → Calls Try.prog 18 #[.slice ap j cp, .slice a9 j c9] wx fun e w' => e = .returned (.bool true) ∧ wx = w' := by
            intro wx ap cp h1 h2
            have h := laws_sameBytes_any ap a9 cp c9 (ns.take j) (ns.take j) wx h1 (seg_take h2 j)
            rw [show (ns.take j).length = j from by simp; omega] at h
            refine h.mono ?_
            rintro e w' ⟨rfl, rfl⟩
            exact ⟨by simp, rfl⟩
          have HQ := hide hQ
          have HL := hide (show (ns.take j).length = j from by simp; omega)
          have s10d : Seg w10.drew a9 ns := s10
          clear hP hQ hput hR B10 s10
          go_wp2_with fail
          go_region_held3 (fun _ => True) (trivial) (first | (go_at_call 13; refine (unhide HP).mono ?_; rintro e w11 ⟨v11, rfl, hv11, b11⟩; obtain ⟨a11, c11, rfl, s11, _, _, _⟩ := hv11.seg_len; rw [unhide HL]; have B11 := hB.trans (b11.mono (by have := hB.size; omega)); have s9b := s10d.grow b11; have hQ1 := hide (unhide HQ w11 a11 c11 s11 s9b); clear b11 hv11) | (go_at_call 18; refine (unhide hQ1).mono ?_; rintro e w12 ⟨rfl, e12⟩; subst e12))
          all_goals
            go_wp2
            go_ret
            exact ⟨rfl, B11⟩
      · have HG := hide hG
        have htb' : ¬ (ts.length : Int) ≤ 20 := by omega
        clear hG
        go_wp2_with fail
        refine (unhide HG).mono ?_
        rintro e w8 ⟨v8, rfl, hv8, b8⟩
        have B8 := Below.on B7 b8
        clear B7 b8 st7 hv8 HG
        go_wp2_with fail
        refine (DrawGetNum_any a cap xs _ (ha.grow B8) hl).mono ?_
        rintro e w9 ⟨v9, ns, f, rfl, hv9, hnl, hf, b9⟩
        have B9 := Below.on B8 b9
        clear B8 b9
        -- the last test
        obtain ⟨a9, c9, rfl, s9, hc9, hm9, k9⟩ := hv9.seg_len
        unfold maxLen at hm9
        have hR := rest_of a9 c9 ns f s9.1
        clear hv9
        go_wp2_with fail
        refine (impl_GetNum_any _ _ ns f _ s9 (by omega) hf).mono ?_
        rintro e w10 ⟨rfl, b10⟩
        have B10 := Below.on B9 b10
        have s10 := s9.grow b10
        clear B9 b10 s9
        rcases hR with hR | ⟨k, p, j, rfl, hR, hk, hpj, hjl, hput⟩
        · rw [hR]
          go_wp2
          go_quiet (fail)
          go_wp2
          go_ret
          exact ⟨rfl, below_drewN B10 _⟩
        · rw [hR]
          have hsl1 := fun wx => slice_to wx a9 ns.length c9 p (by omega)
          have hsl2 := fun wx => slice_to wx a9 ns.length c9 j (by omega)
          have hd : decide ((j : Int) < 0) = false := by simp
          have hP := impl_PutNum_any a9 c9 (ns.take p) k w10.drew (seg_take (show Seg w10.drew a9 ns from s10) p) k9 (by simp; omega)
          rw [hput, show (ns.take p).length = p from by simp; omega] at hP
          have HP := hide hP
          have hB : Below w.heap.size w w10.drew := B10.drew
          have hQ : ∀ (wx : World) (ap : Option Addr) (cp : Nat), Seg wx ap (ns.take j) → Seg wx a9 ns → Calls Try.prog 18 #[.slice ap j cp, .slice a9 j c9] wx fun e w' => e = .returned (.bool true) ∧ wx = w' := by
            intro wx ap cp h1 h2
            have h := laws_sameBytes_any ap a9 cp c9 (ns.take j) (ns.take j) wx h1 (seg_take h2 j)
            rw [show (ns.take j).length = j from by simp; omega] at h
            refine h.mono ?_
            rintro e w' ⟨rfl, rfl⟩
            exact ⟨by simp, rfl⟩
          have HQ := hide hQ
          have HL := hide (show (ns.take j).length = j from by simp; omega)
          have s10d : Seg w10.drew a9 ns := s10
          clear hP hQ hput hR B10 s10
          go_wp2_with fail
          go_region_held3 (fun _ => True) (trivial) (first | (go_at_call 13; refine (unhide HP).mono ?_; rintro e w11 ⟨v11, rfl, hv11, b11⟩; obtain ⟨a11, c11, rfl, s11, _, _, _⟩ := hv11.seg_len; rw [unhide HL]; have B11 := hB.trans (b11.mono (by have := hB.size; omega)); have s9b := s10d.grow b11; have hQ1 := hide (unhide HQ w11 a11 c11 s11 s9b); clear b11 hv11) | (go_at_call 18; refine (unhide hQ1).mono ?_; rintro e w12 ⟨rfl, e12⟩; subst e12))
          all_goals
            go_wp2
            go_ret
            exact ⟨rfl, B11⟩
  · clear Hr
    go_wp2_with fail
    refine (DrawPutText_any a cap xs _ (ha.grow B5) hl).mono ?_
    rintro e w6 ⟨v6, v6b, cs, ts, rfl, hc6, ht6, hcl, htl, b6⟩
    obtain ⟨a6, c6, rfl, sc6, _, _, kc⟩ := hc6.seg_len
    obtain ⟨a6b, c6b, rfl, st6, _, _, kt⟩ := ht6.seg_len
    have B6 := Below.on B5 b6
    clear B5 b6 hc6 ht6
    go_wp2_with fail
    refine (impl_PutText_any _ _ _ _ cs ts _ sc6 st6 kc kt (by omega) (by omega)).mono ?_
    rintro e w7 ⟨v7, rfl, hv7, b7⟩
    obtain ⟨a7, c7, rfl, s7, hc7, hm7, _⟩ := hv7.seg_len
    have B7 := Below.on B6 b7
    have st7 := st6.grow b7
    have hql := putText_len cs ts
    clear B6 b7 sc6 st6 hv7
    have hG := impl_GetText_any a7 c7 (putText cs ts) (cs.length : Nat) w7 s7 hc7 hm7 (by omega) (by omega)
    by_cases htb : ts.length ≤ 20
    · rw [getText_put cs ts htb] at hG
      have HG := hide hG
      have htb' : (ts.length : Int) ≤ 20 := by omega
      have hdt : decide ((ts.length : Int) ≤ 20) = true := by simp; omega
      clear hG
      go_wp2_with fail
      refine (unhide HG).mono ?_
      rintro e w8 ⟨v8, rfl, hv8, b8⟩
      obtain ⟨a8, c8, rfl, s8, _, _, _⟩ := hv8.seg_len
      have B8 := Below.on B7 b8
      have st8 := st7.grow b8
      clear B7 b8 st7 hv8 HG
      go_wp2_with fail
      refine (laws_sameBytes_any _ _ _ _ ts ts _ s8 st8).mono ?_
      rintro e w8b ⟨rfl, e8⟩
      subst e8
      simp only [decide_true]
      go_wp2_with fail
      refine (DrawGetNum_any a cap xs _ (ha.grow B8) hl).mono ?_
      rintro e w9 ⟨v9, ns, f, rfl, hv9, hnl, hf, b9⟩
      have B9 := Below.on B8 b9
      clear B8 b9 s8 st8
      -- the last test
      obtain ⟨a9, c9, rfl, s9, hc9, hm9, k9⟩ := hv9.seg_len
      unfold maxLen at hm9
      have hR := rest_of a9 c9 ns f s9.1
      clear hv9
      go_wp2_with fail
      refine (impl_GetNum_any _ _ ns f _ s9 (by omega) hf).mono ?_
      rintro e w10 ⟨rfl, b10⟩
      have B10 := Below.on B9 b10
      have s10 := s9.grow b10
      clear B9 b10 s9
      rcases hR with hR | ⟨k, p, j, rfl, hR, hk, hpj, hjl, hput⟩
      · rw [hR]
        go_wp2
        go_quiet (fail)
        go_wp2
        go_ret
        exact ⟨rfl, below_drewN B10 _⟩
      · rw [hR]
        have hsl1 := fun wx => slice_to wx a9 ns.length c9 p (by omega)
        have hsl2 := fun wx => slice_to wx a9 ns.length c9 j (by omega)
        have hd : decide ((j : Int) < 0) = false := by simp
        have hP := impl_PutNum_any a9 c9 (ns.take p) k w10.drew (seg_take (show Seg w10.drew a9 ns from s10) p) k9 (by simp; omega)
        rw [hput, show (ns.take p).length = p from by simp; omega] at hP
        have HP := hide hP
        have hB : Below w.heap.size w w10.drew := B10.drew
        have hQ : ∀ (wx : World) (ap : Option Addr) (cp : Nat), Seg wx ap (ns.take j) → Seg wx a9 ns → Calls Try.prog 18 #[.slice ap j cp, .slice a9 j c9] wx fun e w' => e = .returned (.bool true) ∧ wx = w' := by
          intro wx ap cp h1 h2
          have h := laws_sameBytes_any ap a9 cp c9 (ns.take j) (ns.take j) wx h1 (seg_take h2 j)
          rw [show (ns.take j).length = j from by simp; omega] at h
          refine h.mono ?_
          rintro e w' ⟨rfl, rfl⟩
          exact ⟨by simp, rfl⟩
        have HQ := hide hQ
        have HL := hide (show (ns.take j).length = j from by simp; omega)
        have s10d : Seg w10.drew a9 ns := s10
        clear hP hQ hput hR B10 s10
        go_wp2_with fail
        go_region_held3 (fun _ => True) (trivial) (first | (go_at_call 13; refine (unhide HP).mono ?_; rintro e w11 ⟨v11, rfl, hv11, b11⟩; obtain ⟨a11, c11, rfl, s11, _, _, _⟩ := hv11.seg_len; rw [unhide HL]; have B11 := hB.trans (b11.mono (by have := hB.size; omega)); have s9b := s10d.grow b11; have hQ1 := hide (unhide HQ w11 a11 c11 s11 s9b); clear b11 hv11) | (go_at_call 18; refine (unhide hQ1).mono ?_; rintro e w12 ⟨rfl, e12⟩; subst e12))
        all_goals
          go_wp2
          go_ret
          exact ⟨rfl, B11⟩
    · have HG := hide hG
      have htb' : ¬ (ts.length : Int) ≤ 20 := by omega
      clear hG
      go_wp2_with fail
      refine (unhide HG).mono ?_
      rintro e w8 ⟨v8, rfl, hv8, b8⟩
      have B8 := Below.on B7 b8
      clear B7 b8 st7 hv8 HG
      go_wp2_with fail
      refine (DrawGetNum_any a cap xs _ (ha.grow B8) hl).mono ?_
      rintro e w9 ⟨v9, ns, f, rfl, hv9, hnl, hf, b9⟩
      have B9 := Below.on B8 b9
      clear B8 b9
      -- the last test
      obtain ⟨a9, c9, rfl, s9, hc9, hm9, k9⟩ := hv9.seg_len
      unfold maxLen at hm9
      have hR := rest_of a9 c9 ns f s9.1
      clear hv9
      go_wp2_with fail
      refine (impl_GetNum_any _ _ ns f _ s9 (by omega) hf).mono ?_
      rintro e w10 ⟨rfl, b10⟩
      have B10 := Below.on B9 b10
      have s10 := s9.grow b10
      clear B9 b10 s9
      rcases hR with hR | ⟨k, p, j, rfl, hR, hk, hpj, hjl, hput⟩
      · rw [hR]
        go_wp2
        go_quiet (fail)
        go_wp2
        go_ret
        exact ⟨rfl, below_drewN B10 _⟩
      · rw [hR]
        have hsl1 := fun wx => slice_to wx a9 ns.length c9 p (by omega)
        have hsl2 := fun wx => slice_to wx a9 ns.length c9 j (by omega)
        have hd : decide ((j : Int) < 0) = false := by simp
        have hP := impl_PutNum_any a9 c9 (ns.take p) k w10.drew (seg_take (show Seg w10.drew a9 ns from s10) p) k9 (by simp; omega)
        rw [hput, show (ns.take p).length = p from by simp; omega] at hP
        have HP := hide hP
        have hB : Below w.heap.size w w10.drew := B10.drew
        have hQ : ∀ (wx : World) (ap : Option Addr) (cp : Nat), Seg wx ap (ns.take j) → Seg wx a9 ns → Calls Try.prog 18 #[.slice ap j cp, .slice a9 j c9] wx fun e w' => e = .returned (.bool true) ∧ wx = w' := by
          intro wx ap cp h1 h2
          have h := laws_sameBytes_any ap a9 cp c9 (ns.take j) (ns.take j) wx h1 (seg_take h2 j)
          rw [show (ns.take j).length = j from by simp; omega] at h
          refine h.mono ?_
          rintro e w' ⟨rfl, rfl⟩
          exact ⟨by simp, rfl⟩
        have HQ := hide hQ
        have HL := hide (show (ns.take j).length = j from by simp; omega)
        have s10d : Seg w10.drew a9 ns := s10
        clear hP hQ hput hR B10 s10
        go_wp2_with fail
        go_region_held3 (fun _ => True) (trivial) (first | (go_at_call 13; refine (unhide HP).mono ?_; rintro e w11 ⟨v11, rfl, hv11, b11⟩; obtain ⟨a11, c11, rfl, s11, _, _, _⟩ := hv11.seg_len; rw [unhide HL]; have B11 := hB.trans (b11.mono (by have := hB.size; omega)); have s9b := s10d.grow b11; have hQ1 := hide (unhide HQ w11 a11 c11 s11 s9b); clear b11 hv11) | (go_at_call 18; refine (unhide hQ1).mono ?_; rintro e w12 ⟨rfl, e12⟩; subst e12))
        all_goals
          go_wp2
          go_ret
          exact ⟨rfl, B11⟩
end Go.Proofs.Ytlfbpmnpjbegdaa
