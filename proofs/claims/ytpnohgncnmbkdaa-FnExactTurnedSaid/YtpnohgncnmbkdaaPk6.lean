/-
  Texts that a law leans on, one behind the other; no statement is proved here.
-/
import Derived.Test.YtpnohgncnmbkdaaPk5
import Derived.Deep.RegionLaw
import Derived.Deep.CutRange
/-
  Ring of the specification.
-/
namespace Go.Proofs.Ytpnohgncnmbkdaa
open Go.RowKit
set_option linter.unusedVariables false
set_option linter.unusedSimpArgs false

/-- Where the edges from v end. -/
def nextL (E : List Edg) (v : Int) : List Int := (E.filter fun e => decide (e.1 = v)).map (·.2)
/-- Is v in a ring? -/
def ringB (n : Nat) (E : List Edg) (v : Nat) : Bool := decide ((v : Int) ∈ reachF n E (nextL E (v : Int)))
/-- Those below k in a ring. -/
def ringF (n : Nat) (E : List Edg) (k : Nat) : List Int := ((List.range k).filter (ringB n E)).map fun v : Nat => (v : Int)
/-- What Ring answers. -/
def ringA (n : Int) (E : List Edg) : List Int := if gB n E = true then ringF n.toNat E n.toNat else []

theorem nextL_succ (E : List Edg) (v : Int) (j : Nat) (h : j < E.length) : nextL (E.take (j + 1)) v = nextL (E.take j) v ++ (if E[j].1 = v then [E[j].2] else []) := by
  unfold nextL
  rw [List.take_succ_eq_append_getElem h, List.filter_append, List.map_append, List.filter_cons, List.filter_nil]
  by_cases e : E[j].1 = v
  · rw [if_pos e, if_pos (by simpa using e)]
    rfl
  · rw [if_neg e, if_neg (by simpa using e)]
    rfl
theorem nextL_len (E : List Edg) (v : Int) : (nextL E v).length ≤ E.length := by
  unfold nextL
  rw [List.length_map]
  exact List.length_filter_le _ _
theorem nextL_in {n : Nat} {E : List Edg} (hE : InG n E) (v : Int) : ∀ u ∈ nextL E v, 0 ≤ u ∧ u < (n : Int) := fun u hu => by
  unfold nextL at hu
  obtain ⟨e, he, rfl⟩ := List.mem_map.1 hu
  have := hE e (List.mem_filter.1 he).1
  exact ⟨this.2.2.1, this.2.2.2⟩
theorem ringF_succ (n : Nat) (E : List Edg) (k : Nat) : ringF n E (k + 1) = ringF n E k ++ (if ringB n E k = true then [(k : Int)] else []) := by
  unfold ringF
  rw [List.range_succ, List.filter_append, List.map_append, List.filter_cons, List.filter_nil]
  by_cases h : ringB n E k = true
  · rw [if_pos h, if_pos h]
    rfl
  · rw [if_neg h, if_neg h]
    rfl
theorem ringF_len (n : Nat) (E : List Edg) (k : Nat) : (ringF n E k).length ≤ k := by
  unfold ringF
  rw [List.length_map]
  exact Nat.le_trans (List.length_filter_le _ _) (by simp)

/-- What is behind the first j of a list that ascends: v, if it is among them. -/
def gotV (l : List Int) (v : Int) (j : Nat) : List Int := if v ∈ l.take j then [v] else []
theorem outF_len (is : List Bool) (n : Nat) : (outF is n).length ≤ n := by
  unfold outF
  rw [List.length_map]
  exact Nat.le_trans (List.length_filter_le _ _) (by simp)
theorem reachF_len (n : Nat) (E : List Edg) (l : List Int) : (reachF n E l).length ≤ n := outF_len _ _
theorem out_asc (is : List Bool) (n : Nat) : (outF is n).Pairwise (· < ·) := by
  unfold outF
  rw [List.pairwise_map]
  exact (List.pairwise_lt_range.filter _).imp fun h => by omega
theorem got_succ {l : List Int} (hn : l.Pairwise (· < ·)) (v : Int) (j : Nat) (h : j < l.length) : gotV l v (j + 1) = gotV l v j ++ (if l[j] = v then [v] else []) := by
  unfold gotV
  rw [List.take_succ_eq_append_getElem h]
  by_cases e : l[j] = v
  · have hno : ¬ v ∈ l.take j := fun hc => by
      obtain ⟨i, hi, hiv⟩ := List.getElem_of_mem hc
      have hij : i < j := by simp at hi; omega
      rw [List.getElem_take] at hiv
      have := List.pairwise_iff_getElem.1 hn i j (by omega) h hij
      omega
    rw [if_pos e, if_neg hno, if_pos (by rw [List.mem_append]; exact .inr (by simp [e]))]
    rfl
  · rw [if_neg e, List.append_nil]
    by_cases hc : v ∈ l.take j
    · rw [if_pos hc, if_pos (List.mem_append.2 (.inl hc))]
    · rw [if_neg hc, if_neg]
      rw [List.mem_append]
      rintro (h1 | h1)
      · exact hc h1
      · simp at h1
        exact e h1.symm

/-- A box, and all ahead of it as it was. -/
def GSt (w : World) (o : Obj) (wr : World) : Prop := wr.heap[w.heap.size]? = some o ∧ Below w.heap.size w wr ∧ w.heap.size + 1 ≤ wr.heap.size
theorem GSt.on {w wr w' : World} {o : Obj} (h : GSt w o wr) (hb : Below wr.heap.size wr w') : GSt w o w' := by
  obtain ⟨h1, h2, h3⟩ := h
  have := hb.size
  exact ⟨(hb.block _ (by omega)).trans h1, Below.on h2 hb, by omega⟩
theorem GSt.grown {w wr w' : World} {o : Obj} {r : Option Nat} (h : GSt w o wr) (hg : wr.grownBy w' r) (hr : ∀ k, r = some k → w.heap.size + 1 ≤ k) : GSt w o w' := by
  obtain ⟨h1, h2, h3⟩ := h
  exact ⟨(hg.block _ (by omega) (fun e => by have := hr _ e.symm; omega)).trans h1, h2.grown hg (by omega) (fun k hk => by have := hr k hk; omega), by have := hg.size; omega⟩

set_option maxHeartbeats 6400000 in
set_option maxRecDepth 100000 in
theorem spec_Ring_any (N : Nat) (n : Int) (x : Value) (E : List Edg) (w : World) (hx : ESeg (fun b => b < N) w x E) (hN : N ≤ w.heap.size) :
    Calls Try.prog 35 #[.agg #[.int .i64 n, x]] w fun e w' => ∃ u, e = .returned u ∧ NOwn w' w.heap.size u (ringA n E) ∧ Below w.heap.size w w' := by
  have HX : Hid (∀ wx, Below w.heap.size w wx → ESeg (fun b => b < N) wx x E) := fun wx hb => hx.agree (agree_below (hb.mono hN))
  have Hb : Hid (∀ o : Obj, Below w.heap.size w (w.alloc o)) := fun o => (Below.refl _ _).alloc (Nat.le_refl _) o
  have HG : Hid (∀ wx, Below w.heap.size w wx → Calls Try.prog 17 #[.agg #[.int .i64 n, x]] wx fun e w' => e = .returned (.bool (gB n E)) ∧ Below wx.heap.size wx w') := fun wx hb => spec_GraphOk_any N n x E wx (HX.out wx hb) (by have := hb.size; omega)
  by_cases hg : gB n E = true
  rotate_left
  · have hg' : gB n E = false := by simpa using hg
    have ha0 : ringA n E = [] := by simp [ringA, hg']
    rw [hg'] at HG
    rw [ha0]
    obtain ⟨a, cap, rfl, -⟩ := hx
    clear HX hg hg' ha0
    generalize E.length = ll at *
    go_enter Try.func35, Try.ntmps35
    go_wp2_with fail
    refine (HG.out _ (Hb.out _)).mono ?_
    rintro e w1 ⟨rfl, b1⟩
    have B1 := hide' (Below.on (Hb.out _) b1)
    clear b1
    go_wp2
    go_ret
    exact ⟨_, rfl, NOwn.nil _ _, B1.out⟩
  obtain ⟨hn0, hn1, hel, -⟩ := gB_iff.1 hg
  have HRa : Hid (ringA n E = ringF n.toNat E n.toNat) := by show _ = _; simp [ringA, hg]
  rw [hg] at HG
  obtain ⟨m, rfl⟩ : ∃ m : Nat, n = (m : Int) := ⟨n.toNat, by omega⟩
  simp only [Int.toNat_natCast] at HRa
  have hm20 : m ≤ 20 := by omega
  have HIn := hide' (g_in hg)
  have HRc : Hid (∀ (M : Nat) y l wx, M ≤ wx.heap.size → N ≤ M → ESeg (fun b => b < N) wx x E → NSeg (fun b => b < M) wx y l → (∀ v ∈ l, 0 ≤ v ∧ v < (m : Int)) → Calls Try.prog 69 #[.agg #[.int .i64 (m : Int), x], y] wx fun e w' => ∃ u, e = .returned u ∧ NOwn w' wx.heap.size u (reachF m E l) ∧ Below wx.heap.size wx w') := fun M y l wx hM hNM h1 h2 h3 =>
    l9reach_any M m x y E l wx (h1.mono fun b hb => by omega) h2 hM hm20 HIn.out h3
  obtain ⟨i3, hi3, hy0, hy1, hy2⟩ := info_parts infoI
  have hxE := hx
  obtain ⟨a, cap, rfl, hlc, hcm, -, -⟩ := hx
  unfold maxLen at hcm
  clear hg hn0 hn1
  go_enter Try.func35, Try.ntmps35
  go_wp2_with fail
  refine (HG.out _ (Hb.out _)).mono ?_
  rintro e w1 ⟨rfl, b1⟩
  have hI0 : Hid (GSt w (.cells #[.int .i64 (m : Int), .slice a E.length cap] 25) w1 ∧ NOwn w1 (w.heap.size + 1) (.slice none 0 0) (ringF m E 0)) := ⟨⟨box_row b1, Below.on (Hb.out _) b1, by have := b1.size; simp at this; omega⟩, NOwn.nil _ _⟩
  clear b1 HG
  go_wp2_with fail
  go_loopw [3, 4] (fun u v wr => ∃ k : Nat, v = .int .i64 k ∧ k ≤ m ∧ Hid (GSt w (.cells #[.int .i64 (m : Int), .slice a E.length cap] 25) wr ∧ NOwn wr (w.heap.size + 1) u (ringF m E k))) (fun _ v _ => m - (intOf v).toNat)
  case atStart => exact ⟨0, rfl, Nat.zero_le _, hI0⟩
  case round =>
    clear hI0
    obtain ⟨k, rfl, hk, hI⟩ := hrel
    obtain ⟨hS, hO⟩ := hI.out
    obtain ⟨g0, g1, -⟩ := row2 hS.1
    obtain ⟨ua, uc, rfl⟩ := hO.form
    have hrl := ringF_len m E k
    by_cases hkm : k < m
    rotate_left
    · have hkm' : ¬ (k : Int) < (m : Int) := by omega
      obtain rfl : k = m := by omega
      have HF := hide' (And.intro (hO.down (base' := w.heap.size) (by omega)) hS.2.1)
      clear hI hS hO
      generalize (ringF k E k).length = ol at *
      go_wp2
      go_ret
      exact ⟨_, rfl, by rw [HRa.out]; exact HF.out.1, HF.out.2⟩
    have hkm' : (k : Int) < (m : Int) := by omega
    have HI := hide' hI.out
    clear hS hO hI
    generalize hol : (ringF m E k).length = ol at *
    obtain ⟨w3, hw3⟩ : ∃ w3, w3 = wr := ⟨_, rfl⟩
    subst hw3
    have hN0 : Hid (NOwn w3 w3.heap.size (.slice none 0 0) (nextL (E.take 0) (k : Int))) := NOwn.nil _ _
    go_wp2_with fail
    go_loopw [5, 6] (fun u i wz => ∃ j : Nat, i = .int .i64 j ∧ j ≤ E.length ∧ Hid (Below w3.heap.size w3 wz ∧ NOwn wz w3.heap.size u (nextL (E.take j) (k : Int)))) (fun _ i _ => E.length - (intOf i).toNat)
    case atStart => exact ⟨0, rfl, Nat.zero_le _, Below.refl _ _, hN0.out⟩
    case round =>
      clear hN0 g0 g1
      obtain ⟨j, rfl, hj, hJ⟩ := hrel
      have hS := HI.out.1.on hJ.out.1
      obtain ⟨g0, g1, -⟩ := row2 hS.1
      obtain ⟨va, vc, rfl⟩ := hJ.out.2.form
      have hnl := nextL_len (E.take j) (k : Int)
      have htk : (E.take j).length ≤ 400 := by simp; omega
      by_cases hjl : j < E.length
      · have hjl' : (j : Int) < (E.length : Int) := by omega
        obtain ⟨b, off, rfl, _, q0, q1⟩ := (HX.out wr hS.2.1).at hjl
        have hns := nextL_succ E (k : Int) j hjl
        have hz3 := hJ.out.1.size
        by_cases c0 : E[j].1 = (k : Int)
        · rw [if_pos c0] at hns
          rw [c0] at q0
          have HOw : Hid (∀ o, (wr.alloc o).ownsRow w3.heap.size 3 1 (.slice va (nextL (E.take j) (k : Int)).length vc) (nextL (E.take j) (k : Int)).length (iC (nextL (E.take j) (k : Int)))) := fun o => World.ownsRow.alloc hJ.out.2 o
          have HNx : Hid (∀ o g cp w6, w6.ownsRow w3.heap.size 3 1 (.slice (some ⟨g, 0, none⟩) ((nextL (E.take j) (k : Int)).length + 1) cp) ((nextL (E.take j) (k : Int)).length + 1) (iC (nextL (E.take j) (k : Int)) ++ [.int .i64 E[j].2]) → (wr.alloc o).grownBy w6 (Value.slice va (nextL (E.take j) (k : Int)).length vc).ownBlock → Below w3.heap.size w3 w6 ∧ NOwn w6 w3.heap.size (.slice (some ⟨g, 0, none⟩) ((nextL (E.take j) (k : Int)).length + 1) cp) (nextL (E.take (j + 1)) (k : Int))) := fun o g cp w6 h1 h2 => by
            refine ⟨(hJ.out.1.alloc hz3 o).grown h2 (by simp; omega) (fun q hq => (hJ.out.2.lt q hq).1), ?_⟩
            rw [hns]
            unfold NOwn
            rw [iC_add, List.length_append]
            exact h1
          clear hns c0 hJ hS
          generalize E[j].2 = et at *
          generalize hnn : (nextL (E.take j) (k : Int)).length = nn at *
          go_wp2_with (at_builtin; refine wpList_append_lies _ rfl (.tmp 33) (.tmp 40) 27 (by rfl) w3.heap.size 3 i3 (.int .i64 0) 1 8 Try.underlying27 hi3 hy0 hy1 hy2 rfl (by decide) (.slice va nn vc) nn (iC (nextL (E.take j) (k : Int))) (by rfl) (HOw.out _) ⟨wr.heap.size, 0, none⟩ 1 1 [.int .i64 et] (by rfl) (by rfl) (World.news_of_block (cs := #[.int .i64 et]) (t := 3) (fr := (0, 0)) (heap_alloc_new wr _)) (by simp [Value.oneCell']) (by omega) (by unfold maxLen; omega) (by omega) (by simp; omega) (wr.heap.size + 1) (by simp) ?_; intro g6 cp6 w6 hown6 hg6 hat6 hlt6; replace hown6 := hide' (HNx.out _ _ _ _ hown6 hg6); clear hg6 hat6 hlt6)
          go_wp2
          go_roundw
          case rel => exact ⟨j + 1, by go_num, by omega, hown6⟩
          case measure => simp [intOf]; omega
        · rw [if_neg c0, List.append_nil] at hns
          have c0' : (E[j].1 == (k : Int)) = false := by simpa using c0
          have HN : Hid (Below w3.heap.size w3 wr ∧ NOwn wr w3.heap.size (.slice va (nextL (E.take j) (k : Int)).length vc) (nextL (E.take (j + 1)) (k : Int))) := by rw [hns]; exact hJ.out
          clear hns c0 hJ hS
          generalize E[j].1 = ef at *
          generalize (nextL (E.take j) (k : Int)).length = nn at *
          go_wp2
          go_roundw
          case rel => exact ⟨j + 1, by go_num, by omega, HN⟩
          case measure => simp [intOf]; omega
      · have hjl' : ¬ (j : Int) < (E.length : Int) := by omega
        obtain rfl : j = E.length := by omega
        rw [List.take_length] at hJ hnl ⊢
        have hz3 := hJ.out.1.size
        have hzw := HI.out.1.2.2
        have HC := hide' (HRc.out wr.heap.size _ (nextL E (k : Int)) wr (Nat.le_refl _) (by omega) (HX.out wr hS.2.1) hJ.out.2.read (nextL_in HIn.out (k : Int)))
        have hll := reachF_len m E (nextL E (k : Int))
        have hasc : Hid ((reachF m E (nextL E (k : Int))).Pairwise (· < ·)) := out_asc _ _
        have hrb : Hid (ringB m E k = decide ((k : Int) ∈ reachF m E (nextL E (k : Int)))) := rfl
        have hO3 := hide' (HI.out.2.on hJ.out.1)
        have hbk := HI.out.2.lt
        have hS3 := hide' hS
        clear hJ hS
        generalize (nextL E (k : Int)).length = nn at *
        generalize reachF m E (nextL E (k : Int)) = l at *
        obtain ⟨w4, hw4⟩ : ∃ w4, w4 = wr := ⟨_, rfl⟩
        subst hw4
        go_wp2_with fail
        refine HC.out.mono ?_
        rintro e w5 ⟨u, rfl, hL5, b5⟩
        obtain ⟨la, lc, rfl⟩ := hL5.form
        have hK0 : Hid (GSt w (.cells #[.int .i64 (m : Int), .slice a E.length cap] 25) w5 ∧ NOwn w5 (w.heap.size + 1) (.slice ua ol uc) (ringF m E k ++ gotV l (k : Int) 0) ∧ NOwn w5 w4.heap.size (.slice la l.length lc) l ∧ ∀ q, (Value.slice ua ol uc).ownBlock = some q → (Value.slice la l.length lc).ownBlock ≠ some q) := by
          refine ⟨hS3.out.on b5, ?_, hL5, fun q hq e => ?_⟩
          · have : gotV l (k : Int) 0 = [] := by simp [gotV]
            rw [this, List.append_nil]
            exact hO3.out.on b5
          · have h1 := hbk q hq
            have h2 := (hL5.lt q e).1
            omega
        clear hL5 b5 HC hO3 hS3 g0 g1
        go_wp2_with fail
        go_loopw [3, 8] (fun u i wz => ∃ j : Nat, i = .int .i64 j ∧ j ≤ l.length ∧ Hid (GSt w (.cells #[.int .i64 (m : Int), .slice a E.length cap] 25) wz ∧ NOwn wz (w.heap.size + 1) u (ringF m E k ++ gotV l (k : Int) j) ∧ NOwn wz w4.heap.size (.slice la l.length lc) l ∧ ∀ q, u.ownBlock = some q → (Value.slice la l.length lc).ownBlock ≠ some q)) (fun _ i _ => l.length - (intOf i).toNat)
        case atStart => exact ⟨0, rfl, Nat.zero_le _, hK0⟩
        case round =>
          clear hK0
          obtain ⟨j, rfl, hj', hJ⟩ := hrel
          obtain ⟨xa, xc, rfl⟩ := hJ.out.2.1.form
          have hgl : (ringF m E k ++ gotV l (k : Int) j).length ≤ k + 1 := by
            rw [List.length_append, hol]
            have : (gotV l (k : Int) j).length ≤ 1 := by unfold gotV; split <;> simp
            omega
          by_cases hjl : j < l.length
          · have hjl' : (j : Int) < (l.length : Int) := by omega
            obtain ⟨lb, lo, rfl, _, q0⟩ := hJ.out.2.2.1.read.at hjl
            have hgs := got_succ hasc.out (k : Int) j hjl
            have hzw2 := hJ.out.1.2.2
            by_cases c0 : l[j] = (k : Int)
            · rw [if_pos c0] at hgs
              rw [c0] at q0
              have HOw : Hid (∀ o, (wr.alloc o).ownsRow (w.heap.size + 1) 3 1 (.slice xa (ringF m E k ++ gotV l (k : Int) j).length xc) (ringF m E k ++ gotV l (k : Int) j).length (iC (ringF m E k ++ gotV l (k : Int) j))) := fun o => World.ownsRow.alloc hJ.out.2.1 o
              have HNx : Hid (∀ o g cp w6, w6.ownsRow (w.heap.size + 1) 3 1 (.slice (some ⟨g, 0, none⟩) ((ringF m E k ++ gotV l (k : Int) j).length + 1) cp) ((ringF m E k ++ gotV l (k : Int) j).length + 1) (iC (ringF m E k ++ gotV l (k : Int) j) ++ [.int .i64 (k : Int)]) → (wr.alloc o).grownBy w6 (Value.slice xa (ringF m E k ++ gotV l (k : Int) j).length xc).ownBlock → ((Value.slice xa (ringF m E k ++ gotV l (k : Int) j).length xc).ownBlock = some g ∨ g = wr.heap.size + 1) → GSt w (.cells #[.int .i64 (m : Int), .slice a E.length cap] 25) w6 ∧ NOwn w6 (w.heap.size + 1) (.slice (some ⟨g, 0, none⟩) ((ringF m E k ++ gotV l (k : Int) j).length + 1) cp) (ringF m E k ++ gotV l (k : Int) (j + 1)) ∧ NOwn w6 w4.heap.size (.slice (some ⟨lb, lo, none⟩) l.length lc) l ∧ ∀ q, (Value.slice (some ⟨g, 0, none⟩) ((ringF m E k ++ gotV l (k : Int) j).length + 1) cp).ownBlock = some q → (Value.slice (some ⟨lb, lo, none⟩) l.length lc).ownBlock ≠ some q) := fun o g cp w6 h1 h2 h3 => by
                refine ⟨(hJ.out.1.grown (World.grownBy_alloc wr o none) (by simp)).grown h2 (fun q hq => (hJ.out.2.1.lt q hq).1), ?_, ?_, ?_⟩
                · rw [hgs, ← List.append_assoc]
                  unfold NOwn
                  rw [iC_add, List.length_append (bs := [(k : Int)])]
                  exact h1
                · exact (NOwn.on hJ.out.2.2.1 ((Below.refl _ _).alloc (Nat.le_refl _) o)).far h2 (fun q hq e => hJ.out.2.2.2 q e hq)
                · intro q hq e
                  have hq' : g = q := by simpa [Value.ownBlock] using hq
                  subst hq'
                  rcases h3 with h3 | h3
                  · exact hJ.out.2.2.2 g h3 e
                  · have := (hJ.out.2.2.1.lt g e).2
                    omega
              clear hgs c0 hJ
              generalize (ringF m E k ++ gotV l (k : Int) j) = rr at *
              generalize hrn : rr.length = rn at *
              go_wp2_with (at_builtin; refine wpList_append_lies _ rfl (.tmp 57) (.tmp 59) 27 (by rfl) (w.heap.size + 1) 3 i3 (.int .i64 0) 1 8 Try.underlying27 hi3 hy0 hy1 hy2 rfl (by decide) (.slice xa rn xc) rn (iC rr) (by rfl) (HOw.out _) ⟨wr.heap.size, 0, none⟩ 1 1 [.int .i64 (k : Int)] (by rfl) (by rfl) (World.news_of_block (cs := #[.int .i64 (k : Int)]) (t := 3) (fr := (0, 0)) (heap_alloc_new wr _)) (by simp [Value.oneCell']) (by omega) (by unfold maxLen; omega) (by omega) (by simp; omega) (wr.heap.size + 1) (by simp) ?_; intro g6 cp6 w6 hown6 hg6 hat6 hlt6; replace hown6 := hide' (HNx.out _ _ _ _ hown6 hg6 hat6); clear hg6 hat6 hlt6)
              go_wp2
              go_roundw
              case rel => exact ⟨j + 1, by go_num, by omega, hown6⟩
              case measure => simp [intOf]; omega
            · rw [if_neg c0, List.append_nil] at hgs
              have c0' : (l[j] == (k : Int)) = false := by simpa using c0
              have HN : Hid (GSt w (.cells #[.int .i64 (m : Int), .slice a E.length cap] 25) wr ∧ NOwn wr (w.heap.size + 1) (.slice xa (ringF m E k ++ gotV l (k : Int) j).length xc) (ringF m E k ++ gotV l (k : Int) (j + 1)) ∧ NOwn wr w4.heap.size (.slice (some ⟨lb, lo, none⟩) l.length lc) l ∧ ∀ q, (Value.slice xa (ringF m E k ++ gotV l (k : Int) j).length xc).ownBlock = some q → (Value.slice (some ⟨lb, lo, none⟩) l.length lc).ownBlock ≠ some q) := by rw [hgs]; exact hJ.out
              clear hgs c0 hJ
              generalize l[j] = lv at *
              generalize (ringF m E k ++ gotV l (k : Int) j).length = rn at *
              go_wp2
              go_roundw
              case rel => exact ⟨j + 1, by go_num, by omega, HN⟩
              case measure => simp [intOf]; omega
          · have hjl' : ¬ (j : Int) < (l.length : Int) := by omega
            obtain rfl : j = l.length := by omega
            have hfin : Hid (ringF m E k ++ gotV l (k : Int) l.length = ringF m E (k + 1)) := by
              show _ = _
              rw [ringF_succ, hrb.out]
              congr 1
              unfold gotV
              rw [List.take_length]
              by_cases hc : (k : Int) ∈ l
              · rw [if_pos hc, if_pos (by simpa using hc)]
              · rw [if_neg hc, if_neg (by simpa using hc)]
            have HN : Hid (GSt w (.cells #[.int .i64 (m : Int), .slice a E.length cap] 25) wr ∧ NOwn wr (w.heap.size + 1) (.slice xa (ringF m E k ++ gotV l (k : Int) l.length).length xc) (ringF m E (k + 1))) := by
              rw [← hfin.out]
              exact ⟨hJ.out.1, hJ.out.2.1⟩
            clear hJ hfin
            generalize (ringF m E k ++ gotV l (k : Int) l.length).length = rn at *
            go_wp2
            go_roundw
            case rel => exact ⟨k + 1, by go_num, by omega, HN⟩
            case measure => simp [intOf]; omega
end Go.Proofs.Ytpnohgncnmbkdaa
/-
  Part of the specification.
-/
namespace Go.Proofs.Ytpnohgncnmbkdaa
open Go.RowKit
set_option linter.unusedVariables false
set_option linter.unusedSimpArgs false

/-- Is v among them? -/
def hasB (l : List Int) (v : Int) : Bool := decide (v ∈ l)

set_option maxHeartbeats 1600000 in
theorem l9has_any (N : Nat) (y : Value) (l : List Int) (v : Int) (w : World) (hy : NSeg (fun b => b < N) w y l) :
    Calls Try.prog 72 #[y, .int .i64 v] w fun e w' => e = .returned (.bool (hasB l v)) ∧ w = w' := by
  have HC := hide' hy
  obtain ⟨a, cap, rfl, hlc, hcm, -, -⟩ := hy
  unfold maxLen at hcm
  go_enter Try.func72, Try.ntmps72
  go_wp2
  go_loopw [5] (fun i wr => ∃ k : Nat, i = .int .i64 k ∧ k ≤ l.length ∧ wr = w ∧ Hid (∀ j (h : j < l.length), j < k → ¬ l[j] = v)) (fun i _ => l.length - (intOf i).toNat)
  case atStart => exact ⟨0, rfl, Nat.zero_le _, rfl, fun j h h' => by omega⟩
  case round =>
    obtain ⟨k, rfl, hk, rfl, hno⟩ := hrel
    by_cases hlt : k < l.length
    · have hlt' : (k : Int) < (l.length : Int) := by omega
      obtain ⟨b, off, rfl, _, q0⟩ := HC.out.at hlt
      by_cases c : l[k] = v
      · have HF : Hid (hasB l v = true) := by show _ = _; unfold hasB; rw [decide_eq_true_eq, ← c]; exact List.getElem_mem hlt
        rw [c] at q0
        go_wp2
        go_ret
        exact ⟨ret_bool HF.out.symm, rfl⟩
      · have HF : Hid (∀ j (h : j < l.length), j < k + 1 → ¬ l[j] = v) := fun j h h' => by
          by_cases e : j = k
          · subst e; exact c
          · exact hno.out j h (by omega)
        have c' : (l[k] == v) = false := by simpa using c
        clear hno c
        generalize l[k] = lv at *
        go_wp2
        go_roundw
        case rel => exact ⟨k + 1, by go_num, by omega, trivial, HF⟩
        case measure => simp [intOf]; omega
    · have hlt' : ¬ (k : Int) < (l.length : Int) := by omega
      have HF : Hid (hasB l v = false) := by
        show _ = _
        unfold hasB
        rw [decide_eq_false_iff_not]
        intro hm
        obtain ⟨i, hi, e⟩ := List.getElem_of_mem hm
        exact hno.out i hi (by omega) e
      go_wp2
      go_ret
      exact ⟨ret_bool HF.out.symm, rfl⟩

theorem filter_succ (p : Edg → Bool) (E : List Edg) (j : Nat) (h : j < E.length) : (E.take (j + 1)).filter p = (E.take j).filter p ++ (if p E[j] = true then [E[j]] else []) := by
  rw [List.take_succ_eq_append_getElem h, List.filter_append, List.filter_cons, List.filter_nil]
theorem filter_len (p : Edg → Bool) (E : List Edg) (j : Nat) : ((E.take j).filter p).length ≤ j := Nat.le_trans (List.length_filter_le _ _) (by simp; omega)

/-- Two boxes of the call's own, a third one behind a call (block R), which holds a row of edges of its own. -/
def FSt (w : World) (o o' : Obj) (R : Nat) (n : Int) (l : List Edg) (u : Value) (wr : World) : Prop :=
  wr.heap[w.heap.size]? = some o ∧ wr.heap[w.heap.size + 1]? = some o' ∧ Below w.heap.size w wr ∧ w.heap.size + 2 ≤ R ∧ wr.heap[R]? = some (.cells #[.int .i64 n, u] 25 (0, 0)) ∧ EOwn wr (R + 1) u l

theorem fSt_add {w wr w6 : World} {o o' o1 : Obj} {R g cp : Nat} {n : Int} {l : List Edg} {ua : Option Addr} {uc : Nat} {e : Edg} (h : FSt w o o' R n l (.slice ua l.length uc) wr) (hown : w6.ownsRow (R + 1) 36 2 (.slice (some ⟨g, 0, none⟩) (l.length + 1) cp) (l.length + 1) (eC l ++ [.int .i64 e.1, .int .i64 e.2])) (hg : (wr.alloc o1).grownBy w6 (Value.slice ua l.length uc).ownBlock) :
    (w6.cell? ⟨R, 1, none⟩ = some (.slice ua l.length uc) ∧ w6.frozen? ⟨R, 1, none⟩ = false) ∧ FSt w o o' R n (l ++ [e]) (.slice (some ⟨g, 0, none⟩) (l.length + 1) cp) (w6.setCell ⟨R, 1, none⟩ (.slice (some ⟨g, 0, none⟩) (l.length + 1) cp)) := by
  obtain ⟨h1, h2, h3, h4, h5, h6⟩ := h
  have hR : R < wr.heap.size := (Array.getElem?_eq_some_iff.1 h5).1
  have hlt := h6.lt
  have hk : ∀ b, b ≤ R → w6.heap[b]? = wr.heap[b]? := fun b hb => (hg.block b (by simp; omega) (fun e' => by have := (hlt b e'.symm).1; omega)).trans (Below.heap_alloc wr o1 b (by omega))
  have h56 := (hk R (Nat.le_refl _)).trans h5
  obtain ⟨t0, t1, tf⟩ := row2 h56
  refine ⟨⟨t1, tf 1⟩, (Below.heap_setCell w6 _ _ _ (by show w.heap.size ≠ R; omega)).trans ((hk _ (by omega)).trans h1), (Below.heap_setCell w6 _ _ _ (by show w.heap.size + 1 ≠ R; omega)).trans ((hk _ (by omega)).trans h2), ?_, h4, ?_, ?_⟩
  · exact (((h3.alloc (by omega) o1).grown hg (by simp; omega) (fun q hq => by have := (hlt q hq).1; omega))).setCell (by show w.heap.size ≤ R; omega) _
  · rw [heap_setCell_same w6 R 1 _ _ _ h56]
    rfl
  · have hO : EOwn w6 (R + 1) (.slice (some ⟨g, 0, none⟩) (l.length + 1) cp) (l ++ [e]) := by
      unfold EOwn
      rw [eC_add, List.length_append]
      exact hown
    exact hO.far (grown1 w6 R 1 _) (fun q hq => by have := (hO.lt q hq).1; simp; omega)

/-- May Part answer? -/
def partB (n : Int) (E : List Edg) (l : List Int) : Bool := gB n E && decide (l.length ≤ 20)
/-- Both ends are kept. -/
def keepE (l : List Int) (e : Edg) : Bool := hasB l e.1 && hasB l e.2
/-- What Part answers: how many, and the edges. -/
def partN (n : Int) (E : List Edg) (l : List Int) : Int := if partB n E l = true then n else 0
def partA (n : Int) (E : List Edg) (l : List Int) : List Edg := if partB n E l = true then E.filter (keepE l) else []

/-- What a function that answers a graph and a bool leaves. -/
def GrEnd (n : Int) (l : List Edg) (b : Bool) (w : World) (e : Ending) (w' : World) : Prop := ∃ u, e = .returned (.tuple #[.agg #[.int .i64 n, u], .bool b]) ∧ EOwn w' w.heap.size u l ∧ Below w.heap.size w w'
end Go.Proofs.Ytpnohgncnmbkdaa
