/-
  Texts that a law leans on, one behind the other; no statement is proved here.
-/
import Derived.Test.YtmdmiiikbdnioaaPk42
/-
  l2read of the specification at a list or a map: its parts. No statement is proved here.
-/
namespace Go.Proofs.Ytmdmiiikbdnioaa
open Go.RowKit
set_option linter.unusedVariables false
set_option linter.unusedSimpArgs false

/-- What stands while the parts are read: so many rounds are done, and the rest comes to 'fin'. -/
def RSt (xs : List Int) (g : Nat) (a : Option Addr) (cap : Nat) (dp : Nat) (w4 : World) (B : Nat) (kd : Int) (m : Bool) (N k : Nat) (fin : List (List Int) × List (Vl (dp + 1)) × Int × Int) (K : List (List Int)) (L : List (Vl (dp + 1))) (p q : Int) (wr : World) (pK : Option Addr) (cK : Nat) (csK : List (List Value)) (BiK : List (List Nat)) (pL : Option Addr) (cL : Nat) (csL : List (List Value)) (BiL : List (List Nat)) : Prop :=
  RInv 37 xs g a cap w4 B (dp + 1) kd K L p q wr.heap.size wr (.slice pK K.length cK) csK BiK (.slice pL L.length cL) csL BiL ∧ K.length ≤ k ∧ L.length ≤ k ∧ -1 ≤ q ∧ q ≤ 1000 ∧ (q < 0 → p < 0) ∧ rdK (fun a l => rdV xs dp a l) xs m (N - k) K L p q = fin

set_option maxHeartbeats 25600000 in
set_option maxRecDepth 100000 in
theorem l2read_kids (dp : Nat) (ih : RsAt dp) (xs : List Int) (g : Nat) (a : Option Addr) (cap : Nat) (p q deep : Int) (w : World) (h : RdC 37 xs w g a cap p q) (hd : deep = 6 - ((dp + 1 : Nat) : Int)) (hdp : dp + 1 ≤ 6) (hq0 : 1 ≤ q) (hq1 : q ≤ 1000) (hk : (getNum xs p).1 = 4 ∨ (getNum xs p).1 = 5) :
    Calls Try.prog 12 #[.pointer (some ⟨g, 0, none⟩), .int .i64 deep] w (RdEnd 37 xs g a cap w (dp + 1 + 1) (rdV xs (dp + 1) p q).1 (rdV xs (dp + 1) p q).2.1 (rdV xs (dp + 1) p q).2.2) := by
  have hl1 : ¬ q - 1 < 0 := by omega
  have hby := h.2.1.1
  have HV := hide' (rdV_kids (dp := dp) (xs := xs) (at_ := p) (left := q) hl1 hk)
  unfold kidsOf at HV
  obtain ⟨i0, hi, hy0, hy1, hy2⟩ := info_parts info_valueT
  obtain ⟨iT, hiT, hx0, hx1, hx2⟩ := info_parts infoT
  have hgl := h.lt
  have HA : Hid (Below w.heap.size w (w.alloc (.cells #[.int .i64 0, .int .i64 0, .slice none 0 0, .slice none 0 0, .slice none 0 0] 26)) ∧ (w.alloc (.cells #[.int .i64 0, .int .i64 0, .slice none 0 0, .slice none 0 0, .slice none 0 0] 26)).heap[w.heap.size]? = some (.cells #[.int .i64 0, .int .i64 0, .slice none 0 0, .slice none 0 0, .slice none 0 0] 26)) := hide' ⟨(Below.refl _ _).alloc (Nat.le_refl _) _, heap_alloc_new w _⟩
  have HZ0 : Hid (w.heap.size < (w.alloc (.cells #[.int .i64 0, .int .i64 0, .slice none 0 0, .slice none 0 0, .slice none 0 0] 26)).heap.size) := hide' (by simp)
  have HC0 := hide' (h.below HA.out.1)
  have HG0 : Hid (w.grownBy (w.alloc (.cells #[.int .i64 0, .int .i64 0, .slice none 0 0, .slice none 0 0, .slice none 0 0] 26)) (some g)) := hide' (World.grownBy_alloc w _ _)
  have HR0 := hide' HA.out.2
  have HWr : Hid (IntKind.i64.wrap (q - 1) = q - 1) := hide' (by simp only [IntKind.wrap, IntKind.bits, IntKind.signed]; simp; omega)
  clear h HA
  subst hd
  go_enter Try.func12, Try.ntmps12
  go_upto_region 1 with fail
  generalize w.alloc (.cells #[.int .i64 0, .int .i64 0, .slice none 0 0, .slice none 0 0, .slice none 0 0] 26) = w0 at *
  obtain ⟨r0, r1, r2, rf⟩ := row3r HC0.out.1
  have f2 := rf 2
  clear rf
  have HC1 := hide' (HC0.out.cnt (q - 1))
  have HG1 := hide' (grownBy_trans HG0.out (grown1 w0 g 2 (.int .i64 (q - 1))))
  have HR1 := hide' (((grown1 w0 g 2 (.int .i64 (q - 1))).block w.heap.size HZ0.out (by simp; omega)).trans HR0.out)
  have HZ1 := hide' (Nat.lt_of_lt_of_le HZ0.out (grown1 w0 g 2 (.int .i64 (q - 1))).size)
  go_upto_region 2 with fail
  clear r0 r1 r2 f2 HC0 HG0 HR0 HZ0
  generalize w0.setCell ⟨g, 2, none⟩ (.int .i64 (q - 1)) = w1 at *
  obtain ⟨r0, r1, r2, rf⟩ := row3r HC1.out.1
  have f1 := rf 1
  clear rf
  have HL := hide' (spec_l2get_any xs g a cap p (q - 1) w1 HC1.out)
  have hz1 : w.heap.size < w1.heap.size := HZ1.out
  have hdp' : ¬ (5 : Int) < 6 - ((dp + 1 : Nat) : Int) := by omega
  have HG2 := HG1
  have HR2 := HR1
  have HZ2 := HZ1
  have HC2 := HC1
  clear r0 r1 f1
  go_wp2_with fail
  refine HL.out.mono ?_
  rintro e w3 ⟨rfl, hc3, hg3⟩
  have hn0 := get_at xs p hby
  clear HC1 HG1 HR1 HZ1 r2
  generalize (getNum xs p).1 = n1 at *
  generalize (getNum xs p).2 = p1 at *
  go_upto_region 5 with fail
  have HC4 := hide' (hc3.below ((Below.refl _ w3).alloc (Nat.le_refl _) (.cells #[(.int .i64 n1), .int .i64 0, .slice none 0 0, .slice none 0 0, .slice none 0 0] 26)))
  have HG4 := hide' (grownBy_trans (grownBy_trans HG2.out hg3) (World.grownBy_alloc w3 (.cells #[(.int .i64 n1), .int .i64 0, .slice none 0 0, .slice none 0 0, .slice none 0 0] 26) (some g)))
  have hr3 := (hg3.block w.heap.size HZ2.out (by simp; omega)).trans HR2.out
  have hz3 : w.heap.size < w3.heap.size := (Array.getElem?_eq_some_iff.1 hr3).1
  have HR4 := hide' ((Below.heap_alloc w3 (.cells #[(.int .i64 n1), .int .i64 0, .slice none 0 0, .slice none 0 0, .slice none 0 0] 26) _ hz3).trans hr3)
  have HB4 := hide' (heap_alloc_new w3 (.cells #[(.int .i64 n1), .int .i64 0, .slice none 0 0, .slice none 0 0, .slice none 0 0] 26))
  have HZ4 : Hid (w.heap.size < (w3.alloc (.cells #[(.int .i64 n1), .int .i64 0, .slice none 0 0, .slice none 0 0, .slice none 0 0] 26)).heap.size) := hide' (by simp; omega)
  have HBz : Hid (w3.heap.size < (w3.alloc (.cells #[(.int .i64 n1), .int .i64 0, .slice none 0 0, .slice none 0 0, .slice none 0 0] 26)).heap.size) := hide' (by simp)
  have HZ3 := hide' hz3
  have hBg : ¬ w3.heap.size = g := by omega
  have hgB : ¬ g = w3.heap.size := by omega
  have hRle : w.heap.size ≤ w3.heap.size := by omega
  have hgB' : g < w3.heap.size := by omega
  have hBR : ¬ w3.heap.size = w.heap.size := by omega
  have hRB : ¬ w.heap.size = w3.heap.size := by omega
  clear hc3 hg3 hr3 HG2 HR2 HZ2 HC2 HL
  generalize w3.alloc (.cells #[(.int .i64 n1), .int .i64 0, .slice none 0 0, .slice none 0 0, .slice none 0 0] 26) = w4 at *
  generalize w3.heap.size = B at *
  have hn2 := get_at xs p1 hby
  have HL4 := hide' (spec_l2get_any xs g a cap p1 (q - 1) w4 HC4.out)
  rcases hk with rfl | rfl
  · rw [show decide ((4 : Int) = 5) = false from rfl] at HV
    obtain ⟨c0, c1, c2, c3, c4, cf⟩ := row5 HB4.out
    clear cf
    go_wp2_with fail
    refine HL4.out.mono ?_
    rintro e wl ⟨rfl, hc5, hg5⟩
    clear HL4 c0 c1 c2 c3 c4
    generalize (getNum xs p1).1 = nn at *
    generalize (getNum xs p1).2 = p2 at *
    obtain ⟨N, rfl⟩ : ∃ N : Nat, nn = N := ⟨nn.toNat, by omega⟩
    rw [Int.toNat_natCast] at HV
    have HB5 := hide' ((hg5.block B HBz.out (by simp; omega)).trans HB4.out)
    have HR5 := hide' ((hg5.block w.heap.size HZ4.out (by simp; omega)).trans HR4.out)
    have HG5 := hide' (grownBy_trans HG4.out hg5)
    have HZ5 := hide' (Nat.lt_of_lt_of_le HZ4.out hg5.size)
    have HBz5 := hide' (Nat.lt_of_lt_of_le HBz.out hg5.size)
    have HC5 := hide' hc5
    clear hc5 hg5 HC4 HG4 HR4 HB4 HZ4 HBz
    generalize hfin : rdK (fun a l => rdV xs dp a l) xs false N [] [] p2 (q - 1) = fin at *
    have HFin := hide' hfin
    clear hfin
    go_wp2_with fail
    go_loopw [8] (fun i wr => ∃ k : Nat, k ≤ N ∧ i = .int .i64 k ∧ ∃ K L p' q' pK cK csK BiK pL cL csL BiL, Hid (RSt xs g a cap dp wl B 4 false N k fin K L p' q' wr pK cK csK BiK pL cL csL BiL)) (fun i _ => N - (intOf i).toNat)
    case atStart => exact ⟨0, Nat.zero_le _, rfl, [], [], p2, q - 1, none, 0, [], [], none, 0, [], [], hide' ⟨⟨⟨rfl, rfl, rfl, Nat.le_refl _, fun _ _ _ _ => rfl⟩, HB5.out, RW.nil _ _ _ _ _, RW.nil _ _ _ _ _, by simp [Value.ownBlock], by simp [Value.ownBlock], Nat.le_refl _, HC5.out, by omega, HBz5.out⟩, Nat.le_refl _, Nat.le_refl _, by omega, by omega, by omega, HFin.out⟩⟩
    case round =>
      obtain ⟨k, hk, rfl, K, L, p', q', pK, cK, csK, BiK, pL, cL, csL, BiL, hS⟩ := hrel
      have HI := hide' hS.out.1
      obtain ⟨-, hKk, hLk, hqa, hqb, hqp, hrest⟩ := hS.out
      have HRs := hide' hrest
      clear hrest hS
      obtain ⟨v0, v1, v2, v3, v4, vf⟩ := row5 HI.out.2.1
      obtain ⟨r0, r1, r2, _⟩ := row3r HI.out.2.2.2.2.2.2.2.1.1
      have HzI := hide' HI.out.1.2.2.2.1
      by_cases hlt : k < N
      · have hlt' : (k : Int) < (N : Int) := by omega
        by_cases hp' : 0 ≤ p'
        · have hpd : decide (0 ≤ p') = true := by simp [hp']
          have HRs := hide' ((rdK_more _ xs false N k K L p' q' hlt (by omega)).symm.trans HRs.out)
          simp only [Bool.false_eq_true, if_false] at HRs
          have hq0' : 0 ≤ q' := by omega
          have hpl : -1 ≤ p' ∧ p' ≤ xs.length := HI.out.2.2.2.2.2.2.2.1.2.2.2.2.2.2
          go_upto_region 23 with fail
          have HE : Hid (∀ (wy : World) (dd : Int), dd = 6 - (dp : Int) → wy.heap = wr.heap → wy.os = wr.os → wy.tape = wr.tape → wy.output = wr.output → Calls Try.prog 12 #[.pointer (some ⟨g, 0, none⟩), .int .i64 dd] wy (RdEnd 37 xs g a cap wr (dp + 1) (rdV xs dp p' q').1 (rdV xs dp p' q').2.1 (rdV xs dp p' q').2.2)) := hide' (fun wy dd hdd e0 e1 e2 e3 => (ih xs g a cap p' q' dd wy (HI.out.2.2.2.2.2.2.2.1.heap e0) hdd (by omega) hq0' (by omega)).mono fun e w' hh => rd_from hh e0 e1 e2 e3)
          have hrl := rd_left xs dp p' q' hq0'
          clear HFin
          generalize hrv : rdV xs dp p' q' = rv at *
          obtain ⟨tv, p5, q5⟩ := rv
          simp only at HE HRs hrl
          clear hrv
          go_region_law (first | (go_simp; go_at_call 12; refine (HE.out _ _ (by first | rfl | (simp only [IntKind.wrap, IntKind.bits, IntKind.signed] <;> first | rfl | (simp; omega) | omega) | go_num) (by rfl) (by rfl) (by rfl) (by rfl)).mono ?_; rintro e w5 ⟨uk, un, s2, n2, r2, s3, n3, r3, s4, n4, r4, rfl, ⟨Bv, hv5, hBv⟩, hd5, hg5⟩; have I5 := hide' (HI.out.on hg5 hd5); obtain ⟨_, _, _, _, t4, _⟩ := row5 I5.out.2.1; obtain ⟨_, _, _, _, t4o, _⟩ := box_later I5.out.2.1; have hv5 := hide' hv5; have hz5 := hide' (hg5.size); clear hd5 hg5) | (refine step_append_lies _ (by rfl) (.tmp 88) (.tmp 93) 24 (by rfl) wl.heap.size 26 i0 _ 5 88 Try.underlying24 hi hy0 hy1 hy2 rfl (by decide) (.slice pL L.length cL) L.length csL.flatten (by rfl) (by first | exact (I5.out.alloc _).2.2.2.1.2.2.1 | exact ((I5.out.alloc _).same (by rfl) (by rfl) (by rfl) (by rfl)).2.2.2.1.2.2.1) ⟨w5.heap.size, 0, none⟩ 1 1 [.int .i64 uk, .int .i64 un, .slice s2 n2 r2, .slice s3 n3 r3, .slice s4 n4 r4] (by rfl) (by rfl) (World.news_of_block (cs := #[.int .i64 uk, .int .i64 un, .slice s2 n2 r2, .slice s3 n3 r3, .slice s4 n4 r4]) (t := 26) (fr := (0, 0)) (heap_alloc_new w5 _)) (by simp [Value.oneCell']) (by omega) (by unfold maxLen; omega) (by omega) (by have := hz5.out; have := HzI.out; simp; omega) (w5.heap.size + 1) (by simp) ?_; intro g6 cp6 w6 hown6 hg6 hat6 hlt6; obtain ⟨hV6, hI6⟩ := rinv_l (e5 := (.int .i64 uk, .int .i64 un, .slice s2 n2 r2, .slice s3 n3 r3, .slice s4 n4 r4)) ((I5.out.alloc _).same (by rfl) (by rfl) (by rfl) (by rfl)) (VOwn.agree _ hv5.out fun b hb => Below.heap_alloc w5 _ b (hBv b hb).2) (fun b hb => by have h1 := hBv b hb; have h2 := HzI.out; have h3 := hz5.out; refine ⟨h1.1, by omega, ?_⟩; exact Nat.lt_of_lt_of_le h1.2 (by simp)) (VOwn.nodup _ hv5.out) hown6 hg6 (by simpa using hat6); obtain ⟨_, _, _, _, hc6, hf6⟩ := row5 hV6; replace hf6 := hf6 4; replace hI6 := hide' hI6; clear hown6 hg6 hat6 hlt6 hV6 t4 t4o hBv) | fail)
          all_goals (clear HI HE)
          all_goals go_wp2
          all_goals go_roundw
          all_goals first | (simp [intOf]; omega; done) | exact ⟨k + 1, by omega, by go_num, K, L ++ [tv], p5, q5, _, _, _, _, _, _, _, _, hide' ⟨by simpa using hI6.out, by first | omega | (simp; omega), by first | omega | (simp; omega), by omega, by omega, hrl.2.2, HRs.out⟩⟩
        · have hpd : decide (0 ≤ p') = false := by simp [hp']
          have hpd2 : decide (p' ≥ 0) = false := by simp [hp']
          have HEn := hide' ((rdK_end _ xs false (N - k) K L p' q' (by omega)).symm.trans HRs.out)
          have HCf := hide' HI.out.2.2.2.2.2.2.2.1
          have hzr := HI.out.1.2.2.2.1
          have HRf := hide' ((HI.out.1.2.2.2.2 w.heap.size HZ5.out hRB (by omega)).trans HR5.out)
          have HGf : Hid (w.grownBy wr (some g)) := hide' ⟨HI.out.1.1.trans HG5.out.os, HI.out.1.2.1.trans HG5.out.tape, HI.out.1.2.2.1.trans HG5.out.output, by have := HG5.out.size; omega, fun b hb hne => (HI.out.1.2.2.2.2 b (by have := HG5.out.size; omega) (by omega) (by simpa using hne)).trans (HG5.out.block b hb hne)⟩
          have HOf := hide' HI.out.own
          have HZf : Hid (w.heap.size < wr.heap.size) := hide' (by have := HZ5.out; omega)
          obtain ⟨o0, o1, o2, o3, o4, of⟩ := row5 HRf.out
          have f0 := of 0
          have f1 := of 1
          have f2 := of 2
          have f3 := of 3
          have f4 := of 4
          clear of vf HI
          go_wp2_with fail
          have hfin := row5 (set5_heap (j := 0) (.int .i64 4) (.int .i64 0) (.slice none 0 0) (.slice pK K.length cK) (.slice pL L.length cL) (by exact HRf.out : wr.heap[w.heap.size]? = some (.cells #[.int .i64 0, .int .i64 0, .slice none 0 0, .slice none 0 0, .slice none 0 0] 26)))
          simp only [set5, Nat.zero_add] at hfin
          obtain ⟨x0, x1, x2, x3, x4, _⟩ := hfin
          refine bodyPost_ret (v := .agg #[.int .i64 4, .int .i64 0, .slice none 0 0, .slice pK K.length cK, .slice pL L.length cL]) (by simp [results, Try.results12, go_sem, x0, x1, x2, x3, x4]) rfl ?_
          rw [HV.out, ← HEn.out]
          obtain ⟨Bs, ho, hb⟩ := HOf.out
          exact rd_end HCf.out HGf.out hgl HZf.out ⟨Bs, ho, fun b h => ⟨by have := hb b h; have := HZ5.out; omega, (hb b h).2⟩⟩
      · have hlt' : ¬ (k : Int) < (N : Int) := by omega
        have HEn := hide' ((show rdK (fun a l => rdV xs dp a l) xs false (N - k) K L p' q' = (K, L, p', q') by rw [show N - k = 0 by omega]; rfl).symm.trans HRs.out)
        have HCf := hide' HI.out.2.2.2.2.2.2.2.1
        have hzr := HI.out.1.2.2.2.1
        have HRf := hide' ((HI.out.1.2.2.2.2 w.heap.size HZ5.out hRB (by omega)).trans HR5.out)
        have HGf : Hid (w.grownBy wr (some g)) := hide' ⟨HI.out.1.1.trans HG5.out.os, HI.out.1.2.1.trans HG5.out.tape, HI.out.1.2.2.1.trans HG5.out.output, by have := HG5.out.size; omega, fun b hb hne => (HI.out.1.2.2.2.2 b (by have := HG5.out.size; omega) (by omega) (by simpa using hne)).trans (HG5.out.block b hb hne)⟩
        have HOf := hide' HI.out.own
        have HZf : Hid (w.heap.size < wr.heap.size) := hide' (by have := HZ5.out; omega)
        obtain ⟨o0, o1, o2, o3, o4, of⟩ := row5 HRf.out
        have f0 := of 0
        have f1 := of 1
        have f2 := of 2
        have f3 := of 3
        have f4 := of 4
        clear of vf HI
        go_wp2_with fail
        have hfin := row5 (set5_heap (j := 0) (.int .i64 4) (.int .i64 0) (.slice none 0 0) (.slice pK K.length cK) (.slice pL L.length cL) (by exact HRf.out : wr.heap[w.heap.size]? = some (.cells #[.int .i64 0, .int .i64 0, .slice none 0 0, .slice none 0 0, .slice none 0 0] 26)))
        simp only [set5, Nat.zero_add] at hfin
        obtain ⟨x0, x1, x2, x3, x4, _⟩ := hfin
        refine bodyPost_ret (v := .agg #[.int .i64 4, .int .i64 0, .slice none 0 0, .slice pK K.length cK, .slice pL L.length cL]) (by simp [results, Try.results12, go_sem, x0, x1, x2, x3, x4]) rfl ?_
        rw [HV.out, ← HEn.out]
        obtain ⟨Bs, ho, hb⟩ := HOf.out
        exact rd_end HCf.out HGf.out hgl HZf.out ⟨Bs, ho, fun b h => ⟨by have := hb b h; have := HZ5.out; omega, (hb b h).2⟩⟩
  · rw [show decide ((5 : Int) = 5) = true from rfl] at HV
    obtain ⟨c0, c1, c2, c3, c4, cf⟩ := row5 HB4.out
    clear cf
    go_wp2_with fail
    refine HL4.out.mono ?_
    rintro e wl ⟨rfl, hc5, hg5⟩
    clear HL4 c0 c1 c2 c3 c4
    generalize (getNum xs p1).1 = nn at *
    generalize (getNum xs p1).2 = p2 at *
    obtain ⟨N, rfl⟩ : ∃ N : Nat, nn = N := ⟨nn.toNat, by omega⟩
    rw [Int.toNat_natCast] at HV
    have HB5 := hide' ((hg5.block B HBz.out (by simp; omega)).trans HB4.out)
    have HR5 := hide' ((hg5.block w.heap.size HZ4.out (by simp; omega)).trans HR4.out)
    have HG5 := hide' (grownBy_trans HG4.out hg5)
    have HZ5 := hide' (Nat.lt_of_lt_of_le HZ4.out hg5.size)
    have HBz5 := hide' (Nat.lt_of_lt_of_le HBz.out hg5.size)
    have HC5 := hide' hc5
    clear hc5 hg5 HC4 HG4 HR4 HB4 HZ4 HBz
    generalize hfin : rdK (fun a l => rdV xs dp a l) xs true N [] [] p2 (q - 1) = fin at *
    have HFin := hide' hfin
    clear hfin
    go_wp2_with fail
    go_loopw [8] (fun i wr => ∃ k : Nat, k ≤ N ∧ i = .int .i64 k ∧ ∃ K L p' q' pK cK csK BiK pL cL csL BiL, Hid (RSt xs g a cap dp wl B 5 true N k fin K L p' q' wr pK cK csK BiK pL cL csL BiL)) (fun i _ => N - (intOf i).toNat)
    case atStart => exact ⟨0, Nat.zero_le _, rfl, [], [], p2, q - 1, none, 0, [], [], none, 0, [], [], hide' ⟨⟨⟨rfl, rfl, rfl, Nat.le_refl _, fun _ _ _ _ => rfl⟩, HB5.out, RW.nil _ _ _ _ _, RW.nil _ _ _ _ _, by simp [Value.ownBlock], by simp [Value.ownBlock], Nat.le_refl _, HC5.out, by omega, HBz5.out⟩, Nat.le_refl _, Nat.le_refl _, by omega, by omega, by omega, HFin.out⟩⟩
    case round =>
      obtain ⟨k, hk, rfl, K, L, p', q', pK, cK, csK, BiK, pL, cL, csL, BiL, hS⟩ := hrel
      have HI := hide' hS.out.1
      obtain ⟨-, hKk, hLk, hqa, hqb, hqp, hrest⟩ := hS.out
      have HRs := hide' hrest
      clear hrest hS
      obtain ⟨v0, v1, v2, v3, v4, vf⟩ := row5 HI.out.2.1
      obtain ⟨r0, r1, r2, _⟩ := row3r HI.out.2.2.2.2.2.2.2.1.1
      have HzI := hide' HI.out.1.2.2.2.1
      by_cases hlt : k < N
      · have hlt' : (k : Int) < (N : Int) := by omega
        by_cases hp' : 0 ≤ p'
        · have hpd : decide (0 ≤ p') = true := by simp [hp']
          have HRs := hide' ((rdK_more _ xs true N k K L p' q' hlt (by omega)).symm.trans HRs.out)
          simp only [if_true] at HRs
          have hq0' : 0 ≤ q' := by omega
          have hpl : -1 ≤ p' ∧ p' ≤ xs.length := HI.out.2.2.2.2.2.2.2.1.2.2.2.2.2.2
          have HT : Hid (∀ wy : World, wy.heap = wr.heap → wy.os = wr.os → wy.tape = wr.tape → wy.output = wr.output → Calls Try.prog 28 #[.pointer (some ⟨g, 0, none⟩)] wy (TokEnd 37 xs g a cap p' q' wr)) := hide' (fun wy e0 e1 e2 e3 => (spec_l2getText_any xs g a cap p' q' wy (HI.out.2.2.2.2.2.2.2.1.heap e0)).mono fun e w' hh => tok_from hh.tok e0 e1 e2 e3)
          generalize htv : getText xs p' = tp at *
          obtain ⟨tx, p3⟩ := tp
          have hTok : ∀ e wx, TokEnd 37 xs g a cap p' q' wr e wx → ∃ ua un uc, e = .returned (.slice ua un uc) ∧ (∃ B, TOwn wx (.slice ua un uc) tx B ∧ (∀ b ∈ B, wr.heap.size ≤ b ∧ b < wx.heap.size) ∧ B.Nodup) ∧ RdC 37 xs wx g a cap p3 q' ∧ wr.grownBy wx (some g) := fun e wx hh => by unfold TokEnd at hh; rw [htv] at hh; exact hh
          replace HT : Hid (∀ wy : World, wy.heap = wr.heap → wy.os = wr.os → wy.tape = wr.tape → wy.output = wr.output → Calls Try.prog 28 #[.pointer (some ⟨g, 0, none⟩)] wy fun e wx => ∃ ua un uc, e = .returned (.slice ua un uc) ∧ (∃ B, TOwn wx (.slice ua un uc) tx B ∧ (∀ b ∈ B, wr.heap.size ≤ b ∧ b < wx.heap.size) ∧ B.Nodup) ∧ RdC 37 xs wx g a cap p3 q' ∧ wr.grownBy wx (some g)) := hide' (fun wy e0 e1 e2 e3 => (HT.out wy e0 e1 e2 e3).mono hTok)
          have hp3 := (text_at xs p' hby)
          rw [htv] at hp3
          simp only at HRs hp3
          clear hTok htv
          go_upto_region 22 with fail
          go_cut [8] from 80 to 86 (fun s8 wx => s8 = .int .i64 k ∧ ∃ pK cK csK BiK, Hid (RInv 37 xs g a cap wl B (dp + 1) 5 (K ++ [tx]) L p3 q' wx.heap.size wx (.slice pK (K ++ [tx]).length cK) csK BiK (.slice pL L.length cL) csL BiL))
          case first =>
            clear HFin HRs
            go_region_law (first | (go_simp; go_at_call 28; refine (HT.out _ (by rfl) (by rfl) (by rfl) (by rfl)).mono ?_; rintro e w5 ⟨ua, un, uc, rfl, ⟨Bv, hv5, hBv, hBn⟩, hd5, hg5⟩; have I5 := hide' (HI.out.on hg5 hd5); obtain ⟨_, _, _, t3, _, _⟩ := row5 I5.out.2.1; obtain ⟨_, _, _, t3o, _, _⟩ := box_later I5.out.2.1; have hv5 := hide' hv5; have hz5 := hide' (hg5.size); clear hd5 hg5) | (refine step_append_lies _ (by rfl) (.tmp 81) (.tmp 84) 23 (by rfl) wl.heap.size 22 iT _ 1 24 Try.underlying23 hiT hx0 hx1 hx2 rfl (by decide) (.slice pK K.length cK) K.length csK.flatten (by rfl) (by first | exact (I5.out.alloc _).2.2.1.2.2.1 | exact ((I5.out.alloc _).same (by rfl) (by rfl) (by rfl) (by rfl)).2.2.1.2.2.1) ⟨w5.heap.size, 0, none⟩ 1 1 [.slice ua un uc] (by rfl) (by rfl) (World.news_of_block (cs := #[.slice ua un uc]) (t := 22) (fr := (0, 0)) (heap_alloc_new w5 _)) (by simp [Value.oneCell']) (by omega) (by unfold maxLen; omega) (by omega) (by have := hz5.out; have := HzI.out; simp; omega) (w5.heap.size + 1) (by simp) ?_; intro g6 cp6 w6 hown6 hg6 hat6 hlt6; obtain ⟨hV6, hI6⟩ := rinv_k ((I5.out.alloc _).same (by rfl) (by rfl) (by rfl) (by rfl)) (hv5.out.agree fun b hb => Below.heap_alloc w5 _ b (hBv b hb).2) (fun b hb => by have h1 := hBv b hb; have h2 := HzI.out; have h3 := hz5.out; refine ⟨h1.1, by omega, ?_⟩; exact Nat.lt_of_lt_of_le h1.2 (by simp)) hBn hown6 hg6 (by simpa using hat6); obtain ⟨_, _, _, hc6, _, hf6⟩ := row5 hV6; replace hf6 := hf6 3; replace hI6 := hide' hI6; clear hown6 hg6 hat6 hlt6 hV6 t3 t3o hBv hBn) | fail)
            all_goals (clear HI HT)
            all_goals go_wp2
            all_goals go_meet
            all_goals exact ⟨rfl, _, _, _, _, hide' (by simpa using hI6.out)⟩
          case rest =>
          obtain ⟨rfl, pK, cK, csK, BiK, HI⟩ := hcut
          clear HT v0 v1 v2 v3 v4 vf r0 r1 r2 HzI
          have HI := hide' HI.out
          obtain ⟨v0, v1, v2, v3, v4, vf⟩ := row5 HI.out.2.1
          have HzI := hide' HI.out.1.2.2.2.1
          go_upto_region 23 with fail
          have HE : Hid (∀ (wy : World) (dd : Int), dd = 6 - (dp : Int) → wy.heap = wc.heap → wy.os = wc.os → wy.tape = wc.tape → wy.output = wc.output → Calls Try.prog 12 #[.pointer (some ⟨g, 0, none⟩), .int .i64 dd] wy (RdEnd 37 xs g a cap wc (dp + 1) (rdV xs dp p3 q').1 (rdV xs dp p3 q').2.1 (rdV xs dp p3 q').2.2)) := hide' (fun wy dd hdd e0 e1 e2 e3 => (ih xs g a cap p3 q' dd wy (HI.out.2.2.2.2.2.2.2.1.heap e0) hdd (by omega) hq0' (by omega)).mono fun e w' hh => rd_from hh e0 e1 e2 e3)
          have hrl := rd_left xs dp p3 q' hq0'
          clear HFin
          generalize hrv : rdV xs dp p3 q' = rv at *
          obtain ⟨tv, p5, q5⟩ := rv
          simp only at HE HRs hrl
          clear hrv
          go_region_law (first | (go_simp; go_at_call 12; refine (HE.out _ _ (by first | rfl | (simp only [IntKind.wrap, IntKind.bits, IntKind.signed] <;> first | rfl | (simp; omega) | omega) | go_num) (by rfl) (by rfl) (by rfl) (by rfl)).mono ?_; rintro e w5 ⟨uk, un, s2, n2, r2, s3, n3, r3, s4, n4, r4, rfl, ⟨Bv, hv5, hBv⟩, hd5, hg5⟩; have I5 := hide' (HI.out.on hg5 hd5); obtain ⟨_, _, _, _, t4, _⟩ := row5 I5.out.2.1; obtain ⟨_, _, _, _, t4o, _⟩ := box_later I5.out.2.1; have hv5 := hide' hv5; have hz5 := hide' (hg5.size); clear hd5 hg5) | (refine step_append_lies _ (by rfl) (.tmp 88) (.tmp 93) 24 (by rfl) wl.heap.size 26 i0 _ 5 88 Try.underlying24 hi hy0 hy1 hy2 rfl (by decide) (.slice pL L.length cL) L.length csL.flatten (by rfl) (by first | exact (I5.out.alloc _).2.2.2.1.2.2.1 | exact ((I5.out.alloc _).same (by rfl) (by rfl) (by rfl) (by rfl)).2.2.2.1.2.2.1) ⟨w5.heap.size, 0, none⟩ 1 1 [.int .i64 uk, .int .i64 un, .slice s2 n2 r2, .slice s3 n3 r3, .slice s4 n4 r4] (by rfl) (by rfl) (World.news_of_block (cs := #[.int .i64 uk, .int .i64 un, .slice s2 n2 r2, .slice s3 n3 r3, .slice s4 n4 r4]) (t := 26) (fr := (0, 0)) (heap_alloc_new w5 _)) (by simp [Value.oneCell']) (by omega) (by unfold maxLen; omega) (by omega) (by have := hz5.out; have := HzI.out; simp; omega) (w5.heap.size + 1) (by simp) ?_; intro g6 cp6 w6 hown6 hg6 hat6 hlt6; obtain ⟨hV6, hI6⟩ := rinv_l (e5 := (.int .i64 uk, .int .i64 un, .slice s2 n2 r2, .slice s3 n3 r3, .slice s4 n4 r4)) ((I5.out.alloc _).same (by rfl) (by rfl) (by rfl) (by rfl)) (VOwn.agree _ hv5.out fun b hb => Below.heap_alloc w5 _ b (hBv b hb).2) (fun b hb => by have h1 := hBv b hb; have h2 := HzI.out; have h3 := hz5.out; refine ⟨h1.1, by omega, ?_⟩; exact Nat.lt_of_lt_of_le h1.2 (by simp)) (VOwn.nodup _ hv5.out) hown6 hg6 (by simpa using hat6); obtain ⟨_, _, _, _, hc6, hf6⟩ := row5 hV6; replace hf6 := hf6 4; replace hI6 := hide' hI6; clear hown6 hg6 hat6 hlt6 hV6 t4 t4o hBv) | fail)
          all_goals (clear HI HE)
          all_goals go_wp2
          all_goals go_roundw
          all_goals first | (simp [intOf]; omega; done) | exact ⟨k + 1, by omega, by go_num, K ++ [tx], L ++ [tv], p5, q5, _, _, _, _, _, _, _, _, hide' ⟨by simpa using hI6.out, by first | omega | (simp; omega), by first | omega | (simp; omega), by omega, by omega, hrl.2.2, HRs.out⟩⟩
        · have hpd : decide (0 ≤ p') = false := by simp [hp']
          have hpd2 : decide (p' ≥ 0) = false := by simp [hp']
          have HEn := hide' ((rdK_end _ xs true (N - k) K L p' q' (by omega)).symm.trans HRs.out)
          have HCf := hide' HI.out.2.2.2.2.2.2.2.1
          have hzr := HI.out.1.2.2.2.1
          have HRf := hide' ((HI.out.1.2.2.2.2 w.heap.size HZ5.out hRB (by omega)).trans HR5.out)
          have HGf : Hid (w.grownBy wr (some g)) := hide' ⟨HI.out.1.1.trans HG5.out.os, HI.out.1.2.1.trans HG5.out.tape, HI.out.1.2.2.1.trans HG5.out.output, by have := HG5.out.size; omega, fun b hb hne => (HI.out.1.2.2.2.2 b (by have := HG5.out.size; omega) (by omega) (by simpa using hne)).trans (HG5.out.block b hb hne)⟩
          have HOf := hide' HI.out.own
          have HZf : Hid (w.heap.size < wr.heap.size) := hide' (by have := HZ5.out; omega)
          obtain ⟨o0, o1, o2, o3, o4, of⟩ := row5 HRf.out
          have f0 := of 0
          have f1 := of 1
          have f2 := of 2
          have f3 := of 3
          have f4 := of 4
          clear of vf HI
          go_wp2_with fail
          have hfin := row5 (set5_heap (j := 0) (.int .i64 5) (.int .i64 0) (.slice none 0 0) (.slice pK K.length cK) (.slice pL L.length cL) (by exact HRf.out : wr.heap[w.heap.size]? = some (.cells #[.int .i64 0, .int .i64 0, .slice none 0 0, .slice none 0 0, .slice none 0 0] 26)))
          simp only [set5, Nat.zero_add] at hfin
          obtain ⟨x0, x1, x2, x3, x4, _⟩ := hfin
          refine bodyPost_ret (v := .agg #[.int .i64 5, .int .i64 0, .slice none 0 0, .slice pK K.length cK, .slice pL L.length cL]) (by simp [results, Try.results12, go_sem, x0, x1, x2, x3, x4]) rfl ?_
          rw [HV.out, ← HEn.out]
          obtain ⟨Bs, ho, hb⟩ := HOf.out
          exact rd_end HCf.out HGf.out hgl HZf.out ⟨Bs, ho, fun b h => ⟨by have := hb b h; have := HZ5.out; omega, (hb b h).2⟩⟩
      · have hlt' : ¬ (k : Int) < (N : Int) := by omega
        have HEn := hide' ((show rdK (fun a l => rdV xs dp a l) xs true (N - k) K L p' q' = (K, L, p', q') by rw [show N - k = 0 by omega]; rfl).symm.trans HRs.out)
        have HCf := hide' HI.out.2.2.2.2.2.2.2.1
        have hzr := HI.out.1.2.2.2.1
        have HRf := hide' ((HI.out.1.2.2.2.2 w.heap.size HZ5.out hRB (by omega)).trans HR5.out)
        have HGf : Hid (w.grownBy wr (some g)) := hide' ⟨HI.out.1.1.trans HG5.out.os, HI.out.1.2.1.trans HG5.out.tape, HI.out.1.2.2.1.trans HG5.out.output, by have := HG5.out.size; omega, fun b hb hne => (HI.out.1.2.2.2.2 b (by have := HG5.out.size; omega) (by omega) (by simpa using hne)).trans (HG5.out.block b hb hne)⟩
        have HOf := hide' HI.out.own
        have HZf : Hid (w.heap.size < wr.heap.size) := hide' (by have := HZ5.out; omega)
        obtain ⟨o0, o1, o2, o3, o4, of⟩ := row5 HRf.out
        have f0 := of 0
        have f1 := of 1
        have f2 := of 2
        have f3 := of 3
        have f4 := of 4
        clear of vf HI
        go_wp2_with fail
        have hfin := row5 (set5_heap (j := 0) (.int .i64 5) (.int .i64 0) (.slice none 0 0) (.slice pK K.length cK) (.slice pL L.length cL) (by exact HRf.out : wr.heap[w.heap.size]? = some (.cells #[.int .i64 0, .int .i64 0, .slice none 0 0, .slice none 0 0, .slice none 0 0] 26)))
        simp only [set5, Nat.zero_add] at hfin
        obtain ⟨x0, x1, x2, x3, x4, _⟩ := hfin
        refine bodyPost_ret (v := .agg #[.int .i64 5, .int .i64 0, .slice none 0 0, .slice pK K.length cK, .slice pL L.length cL]) (by simp [results, Try.results12, go_sem, x0, x1, x2, x3, x4]) rfl ?_
        rw [HV.out, ← HEn.out]
        obtain ⟨Bs, ho, hb⟩ := HOf.out
        exact rd_end HCf.out HGf.out hgl HZf.out ⟨Bs, ho, fun b h => ⟨by have := hb b h; have := HZ5.out; omega, (hb b h).2⟩⟩
end Go.Proofs.Ytmdmiiikbdnioaa
