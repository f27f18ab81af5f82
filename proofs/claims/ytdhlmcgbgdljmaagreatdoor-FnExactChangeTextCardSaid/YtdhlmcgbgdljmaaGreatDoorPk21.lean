/-
  Texts that a law leans on, one behind the other; no statement is proved here.
-/
import Derived.Test.YtdhlmcgbgdljmaaGreatDoorPk12
import Derived.Test.YtdhlmcgbgdljmaaGreatDoorPk14
import Derived.Test.YtdhlmcgbgdljmaaGreatDoorPk20
import Derived.Test.YtdhlmcgbgdljmaaGreatDoorPk9
import Derived.Test.YtdhlmcgbgdljmaaGreatDoorPk11
import Derived.Test.YtdhlmcgbgdljmaaGreatDoorPk16
import Derived.Test.YtdhlmcgbgdljmaaGreatDoorPk5
/-
  ValText of the program: commas, quotes, numbers, words.
-/
namespace Go.Proofs.YtdhlmcgbgdljmaaGreatDoor
open Go.RowKit Go.Shelf
set_option linter.unusedVariables false
set_option linter.unusedSimpArgs false

/-- What a call that appends has left. -/
def ApEnd (B : Nat) (ys : List Int) (w : World) (e : Ending) (w' : World) : Prop := ∃ a c, e = .returned (.slice a ys.length c) ∧ Bts w' B (.slice a ys.length c) ys ∧ Below B w w' ∧ Kept w w'

theorem apEnd_of {B : Nat} {ys : List Int} {w w' : World} {u : Value} (h : Bts w' B u ys) (hb : Below B w w') (hk : Kept w w') : ApEnd B ys w (.returned u) w' := by
  obtain ⟨a, c, rfl, _⟩ := h.shape
  exact ⟨a, c, rfl, h, hb, hk⟩

theorem nonull_unknownPart (x : Value) (w : World) : (Instr.typeAssert (.iface 103 x) 53 83 true).run Tryz.prog w = .ok (.tuple #[.agg #[], .bool false]) w := by kernel_rfl
theorem nonull_boolPart (x : Value) (w : World) : (Instr.typeAssert (.iface 85 x) 53 83 true).run Tryz.prog w = .ok (.tuple #[.agg #[], .bool false]) w := by kernel_rfl
theorem nonull_intPart (x : Value) (w : World) : (Instr.typeAssert (.iface 87 x) 53 83 true).run Tryz.prog w = .ok (.tuple #[.agg #[], .bool false]) w := by kernel_rfl
theorem nonull_textPart (x : Value) (w : World) : (Instr.typeAssert (.iface 90 x) 53 83 true).run Tryz.prog w = .ok (.tuple #[.agg #[], .bool false]) w := by kernel_rfl
theorem nonull_listPart (x : Value) (w : World) : (Instr.typeAssert (.iface 94 x) 53 83 true).run Tryz.prog w = .ok (.tuple #[.agg #[], .bool false]) w := by kernel_rfl
theorem nonull_mapPart (x : Value) (w : World) : (Instr.typeAssert (.iface 98 x) 53 83 true).run Tryz.prog w = .ok (.tuple #[.agg #[], .bool false]) w := by kernel_rfl
theorem is_nullPart (x : Value) (w : World) : (Instr.typeAssert (.iface 83 x) 53 83 true).run Tryz.prog w = .ok (.tuple #[x, .bool true]) w := by kernel_rfl
theorem is_unknownPart (x : Value) (w : World) : (Instr.typeAssert (.iface 103 x) 53 103 true).run Tryz.prog w = .ok (.tuple #[x, .bool true]) w := by kernel_rfl

set_option maxHeartbeats 1600000 in
set_option maxRecDepth 100000 in
theorem appendComma_any (B k : Nat) (a : Option Addr) (c : Nat) (xs ys : List Int) (w : World) (hB : Bts w B (.slice a xs.length c) xs) (hBw : B ≤ w.heap.size) (hl : xs.length ≤ 1000000) (hk : k ≤ 1000) (hy0 : k = 0 → ys = xs) (hy1 : ¬ k = 0 → ys = xs ++ [44, 32]) :
    Calls Tryz.prog 50 #[.slice a xs.length c, .int .i64 k] w (ApEnd B ys w) := by
  have HB := hide' hB
  by_cases h0 : k = 0
  · have HF := hide' (hy0 h0)
    subst h0
    clear hB hy0 hy1
    go_enter Tryz.func50, Tryz.ntmps50
    go_wp2
    go_ret
    rw [HF.out]
    exact apEnd_of HB.out (Below.refl _ _) (Kept.refl _)
  · have HF := hide' (hy1 h0)
    have h0' : ((k : Int) == 0) = false := by simpa using h0
    clear h0 hy0 hy1 hB
    go_enter Tryz.func50, Tryz.ntmps50
    go_wp2_with (at_builtin; refine wpList_append_text rfl _ (.const (.string { data := #[44, 32] })) 9 (by rfl) Tryz.underlying9 B (.slice a xs.length c) xs [44, 32] (by rfl) HB.out _ (by rfl) (by simp [Byt]) (by rfl) (by (try simp); omega) hBw ?_; intro v1 w1 hv1 hg1; have hb1 := hide' ((Below.refl B w).grown hg1 hBw HB.out.own); have hk1 := hide' (kept_grown HB.out hg1); replace hv1 := hide' hv1; clear hg1)
    go_ret
    rw [HF.out]
    exact apEnd_of hv1.out hb1.out hk1.out

theorem itoa_int (n : Int) : Lib.byteCells (Lib.itoa n) = cellsOf (intT n) ∧ (Lib.itoa n).length = (intT n).length ∧ ∀ x ∈ intT n, Byt x := by
  unfold Lib.itoa intT
  by_cases h : n < 0
  · rw [if_pos h, if_pos h]
    have e : n.natAbs = (-n).toNat := by omega
    refine ⟨?_, ?_, ?_⟩
    · rw [e]; unfold Lib.byteCells cellsOf decI; simp
    · rw [e]; simp [decI]
    · intro x hx
      rcases List.mem_cons.1 hx with rfl | hx
      · unfold Byt; omega
      · exact decI_byt _ x hx
  · rw [if_neg h, if_neg h]
    refine ⟨?_, ?_, decI_byt _⟩
    · unfold Lib.byteCells cellsOf decI; simp
    · simp [decI]

/-- The table that AppendInt reads. -/
def Tab (B : Nat) (w : World) : Prop := Lib.TabBelow Tryz.prog B w "internal/strconv.uint64pow10" .u64 Lib.pow10Tab

theorem AppendInt_any (B : Nat) (n : Int) (v : Value) (xs : List Int) (w : World) (h0 : -1000000000000 ≤ n) (h1 : n ≤ 1000000000000) (hB : Bts w B v xs) (hBw : B ≤ w.heap.size) (hl : xs.length ≤ 1000000) (ht : Tab B w) :
    Calls Tryz.prog 48 #[v, .int .i64 n, .int .i64 10] w (ApEnd B (xs ++ intT n) w) := by
  refine (Tryz.strconv_AppendInt_10 B xs.length n (by omega) (by omega) v (cellsOf xs) w hB.2 hBw (by omega) ht).mono ?_
  rintro e w' ⟨u, rfl, ho, hb, hok⟩
  obtain ⟨e1, e2, e3⟩ := itoa_int n
  refine apEnd_of ⟨?_, ?_⟩ hb (fun g cs T fr h hT => hok g _ h (by simp) (by intro c fz e; simp only [Obj.cells.injEq] at e; exact hT e.2.1))
  · intro z hz
    rcases List.mem_append.1 hz with h | h
    · exact hB.1 z h
    · exact e3 z h
  · rw [e1, e2, ← cellsOf_append] at ho
    rw [List.length_append]
    exact ho
end Go.Proofs.YtdhlmcgbgdljmaaGreatDoor
/-
  ValText of the program: AppendBool, appendQuoted.
-/
namespace Go.Proofs.YtdhlmcgbgdljmaaGreatDoor
open Go.RowKit Go.Shelf
set_option linter.unusedVariables false
set_option linter.unusedSimpArgs false

set_option maxHeartbeats 1600000 in
set_option maxRecDepth 100000 in
theorem AppendBool_any (B : Nat) (q : Bool) (a : Option Addr) (c : Nat) (xs : List Int) (w : World) (hB : Bts w B (.slice a xs.length c) xs) (hBw : B ≤ w.heap.size) (hl : xs.length ≤ 1000000) :
    Calls Tryz.prog 47 #[.slice a xs.length c, .bool q] w (ApEnd B (xs ++ (if q then [116, 114, 117, 101] else [102, 97, 108, 115, 101])) w) := by
  have HB := hide' hB
  clear hB
  cases q with
  | true =>
    have HI : Hid (Calls Tryz.prog 65 #[.slice a xs.length c, .bool true] w (ApEnd B (xs ++ [116, 114, 117, 101]) w)) := by
      show Calls _ _ _ _ _
      go_enter Tryz.func65, Tryz.ntmps65
      go_wp2_with (at_builtin; refine wpList_append_text rfl _ (.const (.string { data := #[116, 114, 117, 101] })) 9 (by rfl) Tryz.underlying9 B (.slice a xs.length c) xs [116, 114, 117, 101] (by rfl) HB.out _ (by rfl) (by simp [Byt]) (by rfl) (by (try simp); omega) hBw ?_; intro v1 w1 hv1 hg1; have hb1 := hide' ((Below.refl B w).grown hg1 hBw HB.out.own); have hk1 := hide' (kept_grown HB.out hg1); replace hv1 := hide' hv1; clear hg1)
      go_ret
      exact apEnd_of hv1.out hb1.out hk1.out
    go_enter Tryz.func47, Tryz.ntmps47
    go_wp2_with fail
    refine HI.out.mono ?_
    rintro e w1 ⟨a1, c1, rfl, hv1, hb1, hk1⟩
    have Hk := hide' hk1
    have Hv := hide' hv1
    have Hb := hide' hb1
    clear hv1 hb1 hk1
    generalize (xs ++ [116, 114, 117, 101]).length = m at *
    go_wp2
    go_ret
    exact apEnd_of Hv.out Hb.out Hk.out
  | false =>
    have HI : Hid (Calls Tryz.prog 65 #[.slice a xs.length c, .bool false] w (ApEnd B (xs ++ [102, 97, 108, 115, 101]) w)) := by
      show Calls _ _ _ _ _
      go_enter Tryz.func65, Tryz.ntmps65
      go_wp2_with (at_builtin; refine wpList_append_text rfl _ (.const (.string { data := #[102, 97, 108, 115, 101] })) 9 (by rfl) Tryz.underlying9 B (.slice a xs.length c) xs [102, 97, 108, 115, 101] (by rfl) HB.out _ (by rfl) (by simp [Byt]) (by rfl) (by (try simp); omega) hBw ?_; intro v1 w1 hv1 hg1; have hb1 := hide' ((Below.refl B w).grown hg1 hBw HB.out.own); have hk1 := hide' (kept_grown HB.out hg1); replace hv1 := hide' hv1; clear hg1)
      go_ret
      exact apEnd_of hv1.out hb1.out hk1.out
    go_enter Tryz.func47, Tryz.ntmps47
    go_wp2_with fail
    refine HI.out.mono ?_
    rintro e w1 ⟨a1, c1, rfl, hv1, hb1, hk1⟩
    have Hk := hide' hk1
    have Hv := hide' hv1
    have Hb := hide' hb1
    clear hv1 hb1 hk1
    generalize (xs ++ [102, 97, 108, 115, 101]).length = m at *
    go_wp2
    go_ret
    exact apEnd_of Hv.out Hb.out Hk.out

/-- '[]byte(s)': the block bears a mark behind its last cell. -/
theorem conv_row (xs : List Int) (hx : ∀ x ∈ xs, Byt x) (hl : xs.length ≤ 1048576) (w : World) : ∃ cap wB cur fr, (convert 9 23 (.string (strOf xs))).run Tryz.prog w = .ok (.slice (some ⟨w.heap.size, 0, none⟩) xs.length cap) wB ∧
    Seg wB (some ⟨w.heap.size, 0, none⟩) xs ∧ Below w.heap.size w wB ∧ wB.heap.size = w.heap.size + 1 ∧ wB.heap[w.heap.size]? = some (.cells cur 5 fr) ∧ fr.2 ≠ 0 := by
  obtain ⟨cap, wB, h1, h2, h3, h4⟩ := conv_back xs hx hl w
  have h1' := h1
  rw [run_bytes_of_string (P := Tryz.prog) w 9 23 5 (strOf xs) Tryz.underlying9 Tryz.underlying23 Tryz.underlying5] at h1
  simp only [Result.ok.injEq] at h1
  obtain ⟨_, hw⟩ := h1
  have hrow : ∃ cur fr, wB.heap[w.heap.size]? = some (.cells cur 5 fr) ∧ fr.2 ≠ 0 := by
    rw [← hw]
    exact ⟨_, _, heap_alloc_new w.drew _, by simp⟩
  obtain ⟨cur, fr, hr, hf⟩ := hrow
  exact ⟨cap, wB, cur, fr, h1', h2.seg.out.1, h3, h4, hr, hf⟩

theorem bts_free {w : World} {B g : Nat} {v : Value} {xs : List Int} {cur : Array Value} {fr : Nat × Nat} (h : Bts w B v xs) (hg : w.heap[g]? = some (.cells cur 5 fr)) (hf : fr.2 ≠ 0) : some g ≠ v.ownBlock := by
  intro e
  obtain ⟨_, _, ⟨rfl, _⟩ | ⟨g', cap, cur', rfl, _, hh, _⟩⟩ := h
  · simp [Value.ownBlock] at e
  · simp only [Value.ownBlock, Option.some.injEq] at e
    subst e
    rw [hg] at hh
    simp only [Option.some.injEq, Obj.cells.injEq] at hh
    obtain ⟨_, _, rfl⟩ := hh
    exact hf rfl

set_option maxHeartbeats 1600000 in
set_option maxRecDepth 100000 in
theorem appendQuoted_any (B : Nat) (a : Option Addr) (c : Nat) (xs ts : List Int) (w : World) (hB : Bts w B (.slice a xs.length c) xs) (hBw : B ≤ w.heap.size) (hl : xs.length ≤ 1000000) (ht : ∀ x ∈ ts, Byt x) (hlt : ts.length ≤ 1000) :
    Calls Tryz.prog 49 #[.slice a xs.length c, .string (strOf ts)] w (ApEnd B (xs ++ quoT ts) w) := by
  have HB := hide' hB
  clear hB
  have hA1 := HB.out.alloc (.cells #[.int .u8 34] 5)
  have hS1 := seg_one w 34 (by unfold Byt; omega)
  have hb0 : Hid (Below B w (w.alloc (.cells #[.int .u8 34] 5))) := (Below.refl _ _).alloc hBw _
  have HT := hide' ht
  have hcb : Hid (∀ wx, ∃ ck wB cur fr, (convert 9 23 (.string (strOf ts))).run Tryz.prog wx = .ok (.slice (some ⟨wx.heap.size, 0, none⟩) ts.length ck) wB ∧ Seg wB (some ⟨wx.heap.size, 0, none⟩) ts ∧ Below wx.heap.size wx wB ∧ wB.heap.size = wx.heap.size + 1 ∧ wB.heap[wx.heap.size]? = some (.cells cur 5 fr) ∧ fr.2 ≠ 0) := fun wx => conv_row ts HT.out (by omega) wx
  have HF : Hid (xs ++ quoT ts = (xs ++ 34 :: escQ (ts.take ts.length)) ++ [34]) := by show _ = _; rw [List.take_length]; simp [quoT]
  generalize hn : ts.length = n at *
  have Hn : Hid (n = ts.length) := hn.symm
  obtain ⟨res, hres⟩ : ∃ res, res = xs ++ quoT ts := ⟨_, rfl⟩
  rw [← hres] at HF
  rw [← hres]
  clear ht hn hres
  go_enter Tryz.func49, Tryz.ntmps49
  go_wp2_with (at_builtin; refine wpList_append_seg rfl (.tmp 7) (.tmp 8) (by rfl) B (.slice a xs.length c) xs [34] (by rfl) hA1 _ 1 1 rfl (by rfl) hS1 (by simp) (by simp; omega) (by simp; omega) ?_; intro v1 w1 hv1 hg1; have hb1 := hide' (hb0.out.grown hg1 (by simp; omega) HB.out.own); have hz1 : B ≤ w1.heap.size := (by have h1 := hb1.out.size; omega); obtain ⟨ck, wB, cur, fr, hcv, hSg, hbB, hzB, hrB, hfr⟩ := hcb.out w1; have HbB := hide' (Below.trans hb1.out (hbB.mono hz1)); have HvB := hide' (hv1.grow hbB); have HkB := hide' ((kept_app (Kept.refl w) hA1 hg1).trans (kept_below hbB)); have HzB := hide' hzB; have HrB := hide' hrB; have HSg := hide' hSg; have Hfr := hide' hfr; clear hg1 hbB hzB hv1 hrB hSg hfr)
  go_loopw [0, 13] (fun y i wr => ∃ k : Nat, k ≤ n ∧ i = .int .i64 k ∧ Hid (Bts wr B y (xs ++ 34 :: escQ (ts.take k))) ∧ Hid (Below B w wr) ∧ Hid (wr.heap[w1.heap.size]? = some (.cells cur 5 fr)) ∧ Hid (Kept w wr)) (fun _ i _ => n - (intOf i).toNat)
  case atStart => exact ⟨0, Nat.zero_le _, rfl, HvB, HbB, HrB, HkB⟩
  case round =>
    obtain ⟨k, hk, rfl, hB, B', hrow, hkp⟩ := hrel
    obtain ⟨ya, yc, rfl, _, _, _, _, kk⟩ := hB.out.shape
    have hz : B ≤ wr.heap.size := by have := B'.out.size; omega
    have hzw : w1.heap.size < wr.heap.size := (Array.getElem?_eq_some_iff.1 hrow.out).1
    have hk2 : (xs ++ 34 :: escQ (ts.take k)).length ≤ 1003000 := by
      have h1 := escQ_len (ts.take k)
      have h2 : (ts.take k).length ≤ ts.length := by simp [List.length_take]; omega
      have := Hn.out
      simp; omega
    have HOwn := hide' hB.out.own
    have hbA : Hid (∀ o : Obj, Below B w (wr.alloc o)) := fun o => B'.out.alloc hz o
    have hrA : Hid (∀ o : Obj, (wr.alloc o).heap[w1.heap.size]? = some (.cells cur 5 fr)) := fun o => (Below.heap_alloc wr o w1.heap.size hzw).trans hrow.out
    obtain ⟨zs, hzs⟩ : ∃ zs, zs = xs ++ 34 :: escQ (ts.take k) := ⟨_, rfl⟩
    rw [← hzs] at hB hk2 HOwn
    have hzl : zs.length = (xs ++ 34 :: escQ (ts.take k)).length := by rw [hzs]
    rw [← hzl]
    have Hne := hide' (bts_free hB.out hrow.out Hfr.out)
    by_cases hlt : k < n
    · have hlt' : (k : Int) < (n : Int) := by omega
      have hlt0 : k < ts.length := by have := Hn.out; omega
      have hst := escQ_step ts k hlt0
      have hcb' : Byt ts[k] := HT.out _ (List.getElem_mem hlt0)
      have HCell : Hid (∀ wx : World, wx.heap[w1.heap.size]? = some (.cells cur 5 fr) → wx.cell? ⟨w1.heap.size, k, none⟩ = some (.int .u8 ts[k])) := fun wx hb => by
        have h := HSg.out.byte hlt0
        rw [Nat.zero_add] at h
        exact (World.cell?_of_block (hb.trans HrB.out.symm)).trans h
      generalize ts[k] = c at *
      have hc := HCell.out wr hrow.out
      by_cases hq : c = 34 ∨ c = 92
      · rw [if_pos hq] at hst
        have HF2 : Hid (xs ++ 34 :: escQ (ts.take (k + 1)) = (zs ++ [92]) ++ [c]) := by show _ = _; rw [hst, hzs]; simp
        have hS92 := seg_one wr 92 (by unfold Byt; omega)
        have hA92 := hB.out.alloc (.cells #[.int .u8 92] 5)
        have hqq : (c == 34) = true ∨ ((c == 34) = false ∧ (c == 92) = true) := by
          rcases hq with rfl | rfl
          · exact .inl rfl
          · exact .inr ⟨rfl, rfl⟩
        have HSc : Hid (∀ wx : World, Seg (wx.alloc (.cells #[.int .u8 c] 5)) (some ⟨wx.heap.size, 0, none⟩) [c]) := fun wx => seg_one wx c hcb'
        clear hst hzs hzl hq hcb hcb'
        have main : True := trivial
        rcases hqq with h34 | ⟨h34, h92⟩
        all_goals
          go_wp2_with (first
            | (at_builtin; refine wpList_append_seg rfl (.tmp 23) (.tmp 24) (by rfl) B (.slice ya zs.length yc) zs [92] (by rfl) hA92 _ 1 1 rfl (by rfl) hS92 (by simp) (by simp; omega) (by simp; omega) ?_; intro v1' w1' hv1' hg1'; have hb1' := hide' ((hbA.out _).grown hg1' (by simp; omega) HOwn.out); have hr1' := hide' ((hg1'.block w1.heap.size (by simp; omega) Hne.out).trans (hrA.out _)); have hz1' : B ≤ w1'.heap.size := (by have h1 := hb1'.out.size; omega); have hzw' : w1.heap.size < w1'.heap.size := (Array.getElem?_eq_some_iff.1 hr1'.out).1; have hSc := HSc.out w1'; have hAc := hv1'.alloc (.cells #[.int .u8 c] 5); have HOwn1 := hide' hv1'.own; have Hne1 := hide' (bts_free hv1' hr1'.out Hfr.out); have hkp1 := hide' (kept_app hkp.out hA92 hg1'); clear hv1' hg1')
            | (at_builtin; refine wpList_append_seg rfl (.tmp 26) (.tmp 28) (by rfl) B v1' (zs ++ [92]) [c] (by rfl) hAc _ 1 1 rfl (by rfl) hSc (by simp) (by simp; omega) (by simp; omega) ?_; intro v2 w2 hv2 hg2; have hb2 := hide' ((hb1'.out.alloc hz1' _).grown hg2 (by simp; omega) HOwn1.out); have hr2 := hide' ((hg2.block w1.heap.size (by simp; omega) Hne1.out).trans ((Below.heap_alloc w1' _ w1.heap.size hzw').trans hr1'.out)); have hkp2 := hide' (kept_app hkp1.out hAc hg2); replace hv2 := hide' hv2; clear hg2))
          go_roundw
          case rel => exact ⟨k + 1, by omega, by go_num, by rw [HF2.out]; exact hv2, hb2, hr2, hkp2⟩
          case measure => simp [intOf]; omega
      · rw [if_neg hq] at hst
        have HF2 : Hid (xs ++ 34 :: escQ (ts.take (k + 1)) = zs ++ [c]) := by show _ = _; rw [hst, hzs]; simp
        have h34 : ¬ c = 34 := fun h => hq (.inl h)
        have h92 : ¬ c = 92 := fun h => hq (.inr h)
        have h34' : (c == 34) = false := by simpa using h34
        have h92' : (c == 92) = false := by simpa using h92
        have hSc := seg_one wr c hcb'
        have hAc := hB.out.alloc (.cells #[.int .u8 c] 5)
        clear hst hzs hzl hcb hcb' hq
        go_wp2_with (at_builtin; refine wpList_append_seg rfl (.tmp 26) (.tmp 28) (by rfl) B (.slice ya zs.length yc) zs [c] (by rfl) hAc _ 1 1 rfl (by rfl) hSc (by simp) (by simp; omega) (by simp; omega) ?_; intro v2 w2 hv2 hg2; have hb2 := hide' ((hbA.out _).grown hg2 (by simp; omega) HOwn.out); have hr2 := hide' ((hg2.block w1.heap.size (by simp; omega) Hne.out).trans (hrA.out _)); have hkp2 := hide' (kept_app hkp.out hAc hg2); replace hv2 := hide' hv2; clear hg2)
        go_roundw
        case rel => exact ⟨k + 1, by omega, by go_num, by rw [HF2.out]; exact hv2, hb2, hr2, hkp2⟩
        case measure => simp [intOf]; omega
    · have hkn : k = ts.length := by have := Hn.out; omega
      have hlt' : ¬ (k : Int) < (n : Int) := by omega
      have HF2 : Hid (res = zs ++ [34]) := by show _ = _; rw [HF.out, hzs, Hn.out, hkn]
      have hS34 := seg_one wr 34 (by unfold Byt; omega)
      have hA34 := hB.out.alloc (.cells #[.int .u8 34] 5)
      clear hkn hzs hzl hcb
      go_wp2_with (at_builtin; refine wpList_append_seg rfl _ _ (by rfl) B (.slice ya zs.length yc) zs [34] (by rfl) hA34 _ 1 1 rfl (by rfl) hS34 (by simp) (by simp; omega) (by simp; omega) ?_; intro v2 w2 hv2 hg2; have hb2 := hide' ((hbA.out _).grown hg2 (by simp; omega) HOwn.out); have hkp2 := hide' (kept_app hkp.out hA34 hg2); replace hv2 := hide' hv2; clear hg2)
      go_ret
      rw [HF2.out]
      exact apEnd_of hv2.out hb2.out hkp2.out
end Go.Proofs.YtdhlmcgbgdljmaaGreatDoor
/-
  A slice of parts, read place by place; no statement is proved here.
-/
namespace Go.Proofs.YtdhlmcgbgdljmaaGreatDoor
open Go.RowKit
set_option linter.unusedVariables false

theorem PLSeg.at {R : Nat → Prop} {w : World} {d : Nat} {a : Option Addr} {n cap : Nat} {l : List (Vl d)} (h : PLSeg R w d (.slice a n cap) l) {k : Nat} (hk : k < l.length) : ∃ b off t x, a = some ⟨b, off, none⟩ ∧ R b ∧ w.cell? ⟨b, off + k, none⟩ = some (.iface t x) ∧ PSeg R w d (.iface t x) (l[k]) := by
  obtain ⟨a', cap', e, hc⟩ := h
  simp only [Value.slice.injEq] at e
  obtain ⟨rfl, _, _⟩ := e
  rcases hc with h0 | ⟨b, off, rfl, hR, hc⟩
  · rw [h0] at hk; simp at hk
  · obtain ⟨u, hu, hv⟩ := hc k hk
    obtain ⟨t, x, rfl⟩ := hv.shape
    exact ⟨b, off, t, x, rfl, hR, hu, hv⟩

theorem PLSeg.grow {w w' : World} {d : Nat} {x : Value} {l : List (Vl d)} (h : PLSeg (fun b => b < w.heap.size) w d x l) (hb : Below w.heap.size w w') : PLSeg (fun b => b < w.heap.size) w' d x l := by
  obtain ⟨a, cap, e, hc⟩ := h
  refine ⟨a, cap, e, ?_⟩
  rcases hc with h0 | ⟨b, off, e1, hR, hc⟩
  · exact .inl h0
  · refine .inr ⟨b, off, e1, hR, fun i hi => ?_⟩
    obtain ⟨u, hu, hv⟩ := hc i hi
    exact ⟨u, (cell_agree (agree_below hb) hR).trans hu, PSeg.carry (fun b hb => hb) (agree_below hb) d hv⟩
end Go.Proofs.YtdhlmcgbgdljmaaGreatDoor
/-
  ValText of the program: appendPart of parts without parts, of lists.
-/
namespace Go.Proofs.YtdhlmcgbgdljmaaGreatDoor
open Go.RowKit Go.Shelf
set_option linter.unusedVariables false
set_option linter.unusedSimpArgs false

/-- The contract of appendPart at depth d. -/
def PSayAt (d : Nat) : Prop := ∀ (N B : Nat) (a : Option Addr) (c : Nat) (xs : List Int) (p : Value) (v : Vl d) (deep : Nat) (w : World), PSeg (fun b => b < N) w d p v → N ≤ B → B ≤ w.heap.size → Bts w B (.slice a xs.length c) xs → goodB d v deep = true → partsV d v ≤ 40 → xs.length + 60 * partsV d v ≤ 900000 → Tab B w →
  Calls Tryz.prog 22 #[.slice a xs.length c, p] w (ApEnd B (xs ++ sayV d v) w)

set_option maxHeartbeats 1600000 in
set_option maxRecDepth 100000 in
theorem appendPart_null (B : Nat) (a : Option Addr) (c : Nat) (xs : List Int) (w : World) (hB : Bts w B (.slice a xs.length c) xs) (hBw : B ≤ w.heap.size) (hl : xs.length ≤ 900000) :
    Calls Tryz.prog 22 #[.slice a xs.length c, .iface 83 (.agg #[])] w (ApEnd B (xs ++ [110, 117, 108, 108]) w) := by
  have t1 := is_nullPart (.agg #[])
  have HB : Hid (∀ o : Obj, Bts (w.alloc o) B (.slice a xs.length c) xs) := fun o => hB.alloc o
  have hbA : Hid (∀ o : Obj, Below B w (w.alloc o)) := fun o => (Below.refl _ _).alloc hBw o
  have hbB : Hid (∀ o : Obj, B ≤ (w.alloc o).heap.size) := fun o => by have := (hbA.out o).size; omega
  have HOwn := hide' hB.own
  clear hB
  go_enter Tryz.func22, Tryz.ntmps22
  go_wp2_with (at_builtin; refine wpList_append_text rfl _ (.const (.string { data := #[110, 117, 108, 108] })) 9 (by rfl) Tryz.underlying9 B (.slice a xs.length c) xs [110, 117, 108, 108] (by rfl) (HB.out _) _ (by rfl) (by simp [Byt]) (by rfl) (by (try simp); omega) (hbB.out _) ?_; intro v1 w1 hv1 hg1; have hb1 := hide' ((hbA.out _).grown hg1 (hbB.out _) HOwn.out); have hk1 := hide' (kept_app (Kept.refl w) (HB.out _) hg1); replace hv1 := hide' hv1; clear hg1)
  go_ret
  exact apEnd_of hv1.out hb1.out hk1.out

set_option maxHeartbeats 1600000 in
set_option maxRecDepth 100000 in
theorem appendPart_false (B : Nat) (a : Option Addr) (c : Nat) (xs : List Int) (w : World) (hB : Bts w B (.slice a xs.length c) xs) (hBw : B ≤ w.heap.size) (hl : xs.length ≤ 900000) :
    Calls Tryz.prog 22 #[.slice a xs.length c, .iface 85 (.agg #[.int .i64 0])] w (ApEnd B (xs ++ [102, 97, 108, 115, 101]) w) := by
  have t1 := nonull_boolPart (.agg #[.int .i64 0])
  have t2 := is_boolPart (.agg #[.int .i64 0])
  have HB : Hid (∀ o : Obj, Bts (w.alloc o) B (.slice a xs.length c) xs) := fun o => hB.alloc o
  have hbA : Hid (∀ o : Obj, Below B w (w.alloc o)) := fun o => (Below.refl _ _).alloc hBw o
  have hbB : Hid (∀ o : Obj, B ≤ (w.alloc o).heap.size) := fun o => by have := (hbA.out o).size; omega
  have HOwn := hide' hB.own
  have HC : Hid (∀ o : Obj, Calls Tryz.prog 47 #[.slice a xs.length c, .bool false] (w.alloc o) (ApEnd B (xs ++ [102, 97, 108, 115, 101]) (w.alloc o))) := fun o => AppendBool_any B false a c xs (w.alloc o) (HB.out o) (hbB.out o) (by omega)
  obtain ⟨ys, hys⟩ : ∃ ys, ys = xs ++ [102, 97, 108, 115, 101] := ⟨_, rfl⟩
  rw [← hys] at HC
  rw [← hys]
  clear hB hys
  go_enter Tryz.func22, Tryz.ntmps22
  go_wp2_with fail
  refine (HC.out _).mono ?_
  rintro e w1 ⟨a1, c1, rfl, hv1, hb1, hk1⟩
  have Hv := hide' hv1
  have Hk := hide' ((kept_alloc _ _).trans hk1)
  have Hb := hide' ((hbA.out _).trans hb1)
  clear hv1 hb1 HC hk1
  generalize ys.length = m at *
  go_wp2
  go_ret
  exact apEnd_of Hv.out Hb.out Hk.out

set_option maxHeartbeats 1600000 in
set_option maxRecDepth 100000 in
theorem appendPart_true (B : Nat) (a : Option Addr) (c : Nat) (xs : List Int) (w : World) (hB : Bts w B (.slice a xs.length c) xs) (hBw : B ≤ w.heap.size) (hl : xs.length ≤ 900000) :
    Calls Tryz.prog 22 #[.slice a xs.length c, .iface 85 (.agg #[.int .i64 1])] w (ApEnd B (xs ++ [116, 114, 117, 101]) w) := by
  have t1 := nonull_boolPart (.agg #[.int .i64 1])
  have t2 := is_boolPart (.agg #[.int .i64 1])
  have HB : Hid (∀ o : Obj, Bts (w.alloc o) B (.slice a xs.length c) xs) := fun o => hB.alloc o
  have hbA : Hid (∀ o : Obj, Below B w (w.alloc o)) := fun o => (Below.refl _ _).alloc hBw o
  have hbB : Hid (∀ o : Obj, B ≤ (w.alloc o).heap.size) := fun o => by have := (hbA.out o).size; omega
  have HOwn := hide' hB.own
  have HC : Hid (∀ o : Obj, Calls Tryz.prog 47 #[.slice a xs.length c, .bool true] (w.alloc o) (ApEnd B (xs ++ [116, 114, 117, 101]) (w.alloc o))) := fun o => AppendBool_any B true a c xs (w.alloc o) (HB.out o) (hbB.out o) (by omega)
  obtain ⟨ys, hys⟩ : ∃ ys, ys = xs ++ [116, 114, 117, 101] := ⟨_, rfl⟩
  rw [← hys] at HC
  rw [← hys]
  clear hB hys
  go_enter Tryz.func22, Tryz.ntmps22
  go_wp2_with fail
  refine (HC.out _).mono ?_
  rintro e w1 ⟨a1, c1, rfl, hv1, hb1, hk1⟩
  have Hv := hide' hv1
  have Hk := hide' ((kept_alloc _ _).trans hk1)
  have Hb := hide' ((hbA.out _).trans hb1)
  clear hv1 hb1 HC hk1
  generalize ys.length = m at *
  go_wp2
  go_ret
  exact apEnd_of Hv.out Hb.out Hk.out

set_option maxHeartbeats 1600000 in
set_option maxRecDepth 100000 in
theorem appendPart_int (vn : Int) (B : Nat) (a : Option Addr) (c : Nat) (xs : List Int) (w : World) (hB : Bts w B (.slice a xs.length c) xs) (hBw : B ≤ w.heap.size) (hl : xs.length ≤ 900000) (h0 : -1000000000000 ≤ vn) (h1 : vn ≤ 1000000000000) (ht : Tab B w) :
    Calls Tryz.prog 22 #[.slice a xs.length c, .iface 87 (.agg #[.int .i64 vn])] w (ApEnd B (xs ++ intT vn) w) := by
  have t1 := nonull_intPart (.agg #[.int .i64 vn])
  have t2 := nobool_intPart (.agg #[.int .i64 vn])
  have t3 := is_intPart (.agg #[.int .i64 vn])
  have HB : Hid (∀ o : Obj, Bts (w.alloc o) B (.slice a xs.length c) xs) := fun o => hB.alloc o
  have hbA : Hid (∀ o : Obj, Below B w (w.alloc o)) := fun o => (Below.refl _ _).alloc hBw o
  have hbB : Hid (∀ o : Obj, B ≤ (w.alloc o).heap.size) := fun o => by have := (hbA.out o).size; omega
  have HOwn := hide' hB.own
  have HC : Hid (∀ o : Obj, Calls Tryz.prog 48 #[.slice a xs.length c, .int .i64 vn, .int .i64 10] (w.alloc o) (ApEnd B (xs ++ intT vn) (w.alloc o))) := fun o => AppendInt_any B vn (.slice a xs.length c) xs (w.alloc o) h0 h1 (HB.out o) (hbB.out o) (by omega) (Lib.TabBelow.on ht (hbA.out o))
  clear ht
  obtain ⟨ys, hys⟩ : ∃ ys, ys = xs ++ intT vn := ⟨_, rfl⟩
  rw [← hys] at HC
  rw [← hys]
  clear hB hys
  go_enter Tryz.func22, Tryz.ntmps22
  go_wp2_with fail
  refine (HC.out _).mono ?_
  rintro e w1 ⟨a1, c1, rfl, hv1, hb1, hk1⟩
  have Hv := hide' hv1
  have Hk := hide' ((kept_alloc _ _).trans hk1)
  have Hb := hide' ((hbA.out _).trans hb1)
  clear hv1 hb1 HC hk1
  generalize ys.length = m at *
  go_wp2
  go_ret
  exact apEnd_of Hv.out Hb.out Hk.out

set_option maxHeartbeats 1600000 in
set_option maxRecDepth 100000 in
theorem appendPart_text (sx : ByteArray) (ts : List Int) (B : Nat) (a : Option Addr) (c : Nat) (xs : List Int) (w : World) (hB : Bts w B (.slice a xs.length c) xs) (hBw : B ≤ w.heap.size) (hl : xs.length ≤ 900000) (hsx : sx = strOf ts) (hts : ∀ x ∈ ts, Byt x) (hlt : ts.length ≤ 1000) :
    Calls Tryz.prog 22 #[.slice a xs.length c, .iface 90 (.agg #[.string sx])] w (ApEnd B (xs ++ quoT ts) w) := by
  have t1 := nonull_textPart (.agg #[.string sx])
  have t2 := nobool_textPart (.agg #[.string sx])
  have t3 := noint_textPart (.agg #[.string sx])
  have t4 := is_textPart (.agg #[.string sx])
  have HB : Hid (∀ o : Obj, Bts (w.alloc o) B (.slice a xs.length c) xs) := fun o => hB.alloc o
  have hbA : Hid (∀ o : Obj, Below B w (w.alloc o)) := fun o => (Below.refl _ _).alloc hBw o
  have hbB : Hid (∀ o : Obj, B ≤ (w.alloc o).heap.size) := fun o => by have := (hbA.out o).size; omega
  have HOwn := hide' hB.own
  have HC : Hid (∀ o : Obj, Calls Tryz.prog 49 #[.slice a xs.length c, .string sx] (w.alloc o) (ApEnd B (xs ++ quoT ts) (w.alloc o))) := fun o => by rw [hsx]; exact appendQuoted_any B a c xs ts (w.alloc o) (HB.out o) (hbB.out o) (by omega) hts hlt
  clear hsx hts
  obtain ⟨ys, hys⟩ : ∃ ys, ys = xs ++ quoT ts := ⟨_, rfl⟩
  rw [← hys] at HC
  rw [← hys]
  clear hB hys
  go_enter Tryz.func22, Tryz.ntmps22
  go_wp2_with fail
  refine (HC.out _).mono ?_
  rintro e w1 ⟨a1, c1, rfl, hv1, hb1, hk1⟩
  have Hv := hide' hv1
  have Hk := hide' ((kept_alloc _ _).trans hk1)
  have Hb := hide' ((hbA.out _).trans hb1)
  clear hv1 hb1 HC hk1
  generalize ys.length = m at *
  go_wp2
  go_ret
  exact apEnd_of Hv.out Hb.out Hk.out

set_option maxHeartbeats 1600000 in
set_option maxRecDepth 100000 in
theorem appendPart_unknown (B : Nat) (a : Option Addr) (c : Nat) (xs : List Int) (w : World) (hB : Bts w B (.slice a xs.length c) xs) (hBw : B ≤ w.heap.size) (hl : xs.length ≤ 900000) :
    Calls Tryz.prog 22 #[.slice a xs.length c, .iface 103 (.agg #[])] w (ApEnd B (xs ++ [63]) w) := by
  have t1 := nonull_unknownPart (.agg #[])
  have t2 := nobool_unknownPart (.agg #[])
  have t3 := noint_unknownPart (.agg #[])
  have t4 := notext_unknownPart (.agg #[])
  have t5 := nolist_unknownPart (.agg #[])
  have t6 := nomap_unknownPart (.agg #[])
  have t7 := is_unknownPart (.agg #[])
  have HB : Hid (∀ o : Obj, Bts (w.alloc o) B (.slice a xs.length c) xs) := fun o => hB.alloc o
  have hbA : Hid (∀ o : Obj, Below B w (w.alloc o)) := fun o => (Below.refl _ _).alloc hBw o
  have hbB : Hid (∀ o : Obj, B ≤ (w.alloc o).heap.size) := fun o => by have := (hbA.out o).size; omega
  have HOwn := hide' hB.own
  have hS1 : Hid (∀ o : Obj, Seg ((w.alloc o).alloc (.cells #[.int .u8 63] 5)) (some ⟨w.heap.size + 1, 0, none⟩) [63]) := fun o => by
    have h := seg_one (w.alloc o) 63 (by unfold Byt; omega)
    simp only [World.size_alloc] at h
    exact h
  have hA1 : Hid (∀ o o' : Obj, Bts ((w.alloc o).alloc o') B (.slice a xs.length c) xs) := fun o o' => (hB.alloc o).alloc o'
  have hbC : Hid (∀ o o' : Obj, Below B w ((w.alloc o).alloc o')) := fun o o' => (hbA.out o).alloc (hbB.out o) o'
  clear hB
  go_enter Tryz.func22, Tryz.ntmps22
  go_wp2_with (at_builtin; refine wpList_append_seg rfl _ _ (by rfl) B (.slice a xs.length c) xs [63] (by rfl) (hA1.out _ _) _ 1 1 rfl (by rfl) (hS1.out _) (by simp) (by simp; omega) (by simp; omega) ?_; intro v1 w1 hv1 hg1; have hb1 := hide' ((hbC.out _ _).grown hg1 (by simp; omega) HOwn.out); have hk1 := hide' (kept_app2 (Kept.refl w) (hA1.out _ _) hg1); replace hv1 := hide' hv1; clear hg1)
  go_ret
  exact apEnd_of hv1.out hb1.out hk1.out
end Go.Proofs.YtdhlmcgbgdljmaaGreatDoor
/-
  ValText of the program: appendPart of a list.
-/
namespace Go.Proofs.YtdhlmcgbgdljmaaGreatDoor
open Go.RowKit Go.Shelf
set_option linter.unusedVariables false
set_option linter.unusedSimpArgs false

theorem row1c {w : World} {b : Nat} {c : Value} {t : TypeId} (h : w.heap[b]? = some (.cells #[c] t (0, 0))) : w.cell? ⟨b, 0, none⟩ = some c := by
  rw [cell_of_row w b 0 _ _ _ h]
  rfl

set_option maxHeartbeats 3000000 in
set_option maxRecDepth 100000 in
theorem appendPart_list (d : Nat) (ih : PSayAt d) (N B : Nat) (a : Option Addr) (c : Nat) (xs : List Int) (vK : List (List Int)) (vL : List (Vl d)) (la : Option Addr) (lc : Nat) (deep : Nat) (w : World) (hN : N ≤ B) (hBw : B ≤ w.heap.size) (hB : Bts w B (.slice a xs.length c) xs)
    (hL : PLSeg (fun b => b < N) w d (.slice la vL.length lc) vL) (hg : ∀ j (h : j < vL.length), goodB d vL[j] deep = true) (hp : 1 + pre (partsV d) vL vL.length ≤ 40) (hn : vL.length ≤ 40) (hlen : xs.length + 60 * (1 + pre (partsV d) vL vL.length) ≤ 900000) (ht : Tab B w) :
    Calls Tryz.prog 22 #[.slice a xs.length c, .iface 94 (.agg #[.slice la vL.length lc])] w (ApEnd B (xs ++ 91 :: (kidS (sayV d) false vK vL vL.length ++ [93])) w) := by
  have t1 := nonull_listPart (.agg #[.slice la vL.length lc])
  have t2 := nobool_listPart (.agg #[.slice la vL.length lc])
  have t3 := noint_listPart (.agg #[.slice la vL.length lc])
  have t4 := notext_listPart (.agg #[.slice la vL.length lc])
  have t5 := is_listPart (.agg #[.slice la vL.length lc])
  have HI := hide' ih
  have HG := hide' hg
  have HL := hide' hL
  have HTb := hide' ht
  have HPk : Hid (∀ k (h : k < vL.length), partsV d vL[k] ≤ 40) := fun k h => by
    have h3 := pre_succ (partsV d) vL k h
    have h4 := pre_le (partsV d) vL (k + 1)
    have h5 := pre_all (partsV d) vL
    omega
  have HRoom : Hid (∀ k (h : k < vL.length), xs.length + 1 + (kidS (sayV d) false vK vL k).length + 2 + 60 * partsV d vL[k] ≤ 900000) := fun k h => by
    have h1 := kidS_len (sayV d) (partsV d) false vK vL (fun h => by simp at h) (fun j h => sayV_len d vL[j] deep (hg j h)) k (by omega)
    have h3 := pre_succ (partsV d) vL k h
    have h4 := pre_le (partsV d) vL (k + 1)
    have h5 := pre_all (partsV d) vL
    omega
  have HKn : Hid (∀ k, k ≤ vL.length → (kidS (sayV d) false vK vL k).length ≤ 2400) := fun k h => by
    have h1 := kidS_len (sayV d) (partsV d) false vK vL (fun h => by simp at h) (fun j h => sayV_len d vL[j] deep (hg j h)) k h
    have h4 := pre_le (partsV d) vL k
    have h5 := pre_all (partsV d) vL
    omega
  have HStp : Hid (∀ k (h : k < vL.length), kidS (sayV d) false vK vL (k + 1) = kidS (sayV d) false vK vL k ++ (aheadS false vK k ++ sayV d vL[k])) := fun k h => kidS_succ _ _ _ _ k h
  have HZ : Hid (kidS (sayV d) false vK vL 0 = []) := rfl
  generalize hkid : kidS (sayV d) false vK vL = kid at *
  have HB : Hid (∀ o o' : Obj, Bts ((w.alloc o).alloc o') B (.slice a xs.length c) xs) := fun o o' => (hB.alloc o).alloc o'
  have hS1 : Hid (∀ o : Obj, Seg ((w.alloc o).alloc (.cells #[.int .u8 91] 5)) (some ⟨w.heap.size + 1, 0, none⟩) [91]) := fun o => by
    have h := seg_one (w.alloc o) 91 (by unfold Byt; omega)
    simp only [World.size_alloc] at h
    exact h
  have hbC : Hid (∀ o o' : Obj, Below B w ((w.alloc o).alloc o')) := fun o o' => ((Below.refl _ _).alloc hBw o).alloc (by simp; omega) o'
  have Hbx : Hid (∀ o o2 : Obj, ((w.alloc o).alloc o2).heap[w.heap.size]? = some o) := fun o o2 => (Below.heap_alloc _ _ _ (by simp)).trans (MapKept.heap_alloc w o).1
  have HOwn := hide' hB.own
  have Hneq : Hid (some w.heap.size ≠ (Value.slice a xs.length c).ownBlock) := fun e => by have := (hB.2.lt _ e.symm).2; omega
  obtain ⟨res, hres⟩ : ∃ res, res = xs ++ 91 :: (kid vL.length ++ [93]) := ⟨_, rfl⟩
  have HRes := hide' hres
  rw [← hres]
  have hxl : xs.length ≤ 900000 := by omega
  clear hL hg ih hkid hp ht hB hres hlen
  go_enter Tryz.func22, Tryz.ntmps22
  go_wp2_with (at_builtin; refine wpList_append_seg rfl (.tmp 47) (.tmp 48) (by rfl) B (.slice a xs.length c) xs [91] (by rfl) (HB.out _ _) _ 1 1 rfl (by rfl) (hS1.out _) (by simp) (by simp; omega) (by simp; omega) ?_; intro v1 w1 hv1 hg1; have hb1 := hide' ((hbC.out _ _).grown hg1 (by simp; omega) HOwn.out); have hx1 := (hg1.block w.heap.size (by simp; omega) Hneq.out).trans (Hbx.out _ _); have cx1 := row1c hx1; have hk1 := hide' (kept_app2 (Kept.refl w) (HB.out _ _) hg1); replace hv1 := hide' hv1; clear hg1 hx1)
  go_loopw [0, 53] (fun y i wr => ∃ k : Nat, k ≤ vL.length ∧ i = .int .i64 k ∧ Hid (Bts wr B y (xs ++ 91 :: kid k)) ∧ Hid (Below B w wr) ∧ Hid (Kept w wr)) (fun _ i _ => vL.length - (intOf i).toNat)
  case atStart => exact ⟨0, Nat.zero_le _, rfl, by rw [HZ.out]; exact hv1, hb1, hk1⟩
  case round =>
    clear cx1 hv1 hb1 hk1
    obtain ⟨k, hk, rfl, hB, hbel, hkp⟩ := hrel
    obtain ⟨ya, yc, rfl, _, _, _, _, kk⟩ := hB.out.shape
    have hz : B ≤ wr.heap.size := by have := hbel.out.size; omega
    have hkn := HKn.out k hk
    have HOwn := hide' hB.out.own
    obtain ⟨zs, hzs⟩ : ∃ zs, zs = xs ++ 91 :: kid k := ⟨_, rfl⟩
    have hzl : zs.length = (xs ++ 91 :: kid k).length := by rw [hzs]
    have hzn : zs.length = xs.length + 1 + (kid k).length := by rw [hzs]; simp; omega
    rw [← hzs] at hB HOwn
    rw [← hzl]
    by_cases hlt : k < vL.length
    · have hlt' : (k : Int) < (vL.length : Int) := by omega
      have hroom := HRoom.out k hlt
      obtain ⟨b, off, t, px, rfl, hR, hc, hps⟩ := HL.out.at hlt
      have hcell := (cell_agree (agree_below (hbel.out.mono hN)) hR).trans hc
      have hst := HStp.out k hlt
      obtain ⟨ys, hys⟩ : ∃ ys, ys = zs ++ (if k = 0 then [] else [44, 32]) := ⟨_, rfl⟩
      have hyl : ys.length ≤ zs.length + 2 := by rw [hys]; split <;> simp
      have HC1 := hide' (appendComma_any B k ya yc zs ys wr hB.out hz (by omega) (by omega) (fun h => by rw [hys, if_pos h]; simp) (fun h => by rw [hys, if_neg h]))
      have HC2 : Hid (∀ a1 c1 wx, Bts wx B (.slice a1 ys.length c1) ys → Below B w wx → Calls Tryz.prog 22 #[.slice a1 ys.length c1, .iface t px] wx (ApEnd B (xs ++ 91 :: kid (k + 1)) wx)) := fun a1 c1 wx h hb => by
        have e : xs ++ 91 :: kid (k + 1) = ys ++ sayV d vL[k] := by rw [hst, hys, hzs]; simp [aheadS]
        rw [e]
        exact HI.out N B a1 c1 ys (.iface t px) vL[k] deep wx (PSeg.carry (fun b h => h) (agree_below (hb.mono hN)) d hps) hN (by have := hb.size; omega) h (HG.out k hlt) (HPk.out k hlt) (by omega) (Lib.TabBelow.on HTb.out hb)
      clear hst hys hzs hzl hzn hroom hkn hps hc
      go_wp2_with fail
      refine HC1.out.mono ?_
      rintro e w5 ⟨a5, c5, rfl, hv5, hb5, hk5⟩
      have hkp5 := hide' (hkp.out.trans hk5)
      have Hb5 := hide' (hbel.out.trans hb5)
      have HC3 := hide' (HC2.out a5 c5 w5 hv5 Hb5.out)
      generalize ys.length = m5 at *
      clear hv5 hb5 HC1 HC2 hk5
      go_wp2_with fail
      refine HC3.out.mono ?_
      rintro e w6 ⟨a6, c6, rfl, hv6, hb6, hk6⟩
      have hkp6 := hide' (hkp5.out.trans hk6)
      have Hb6 := hide' (Hb5.out.trans hb6)
      have Hv6 := hide' hv6
      generalize (xs ++ 91 :: kid (k + 1)).length = m6 at *
      clear hv6 hb6 HC3 hcell hk6
      go_wp2
      go_roundw
      case rel => exact ⟨k + 1, by omega, by go_num, Hv6, Hb6, hkp6⟩
      case measure => simp [intOf]; omega
    · have hkn' : k = vL.length := by omega
      have hlt' : ¬ (k : Int) < (vL.length : Int) := by omega
      have HF : Hid (res = zs ++ [93]) := by show _ = _; rw [HRes.out, hzs, hkn']; simp
      have hS93 := seg_one wr 93 (by unfold Byt; omega)
      have hA93 := hB.out.alloc (.cells #[.int .u8 93] 5)
      have hbA : Hid (∀ o : Obj, Below B w (wr.alloc o)) := fun o => hbel.out.alloc hz o
      clear hkn' hzs hzl
      go_wp2_with (at_builtin; refine wpList_append_seg rfl _ _ (by rfl) B (.slice ya zs.length yc) zs [93] (by rfl) hA93 _ 1 1 rfl (by rfl) hS93 (by simp) (by simp; omega) (by simp; omega) ?_; intro v2 w2 hv2 hg2; have hb2 := hide' ((hbA.out _).grown hg2 (by simp; omega) HOwn.out); have hk2 := hide' (kept_app hkp.out hA93 hg2); replace hv2 := hide' hv2; clear hg2)
      go_ret
      rw [HF.out]
      exact apEnd_of hv2.out hb2.out hk2.out
end Go.Proofs.YtdhlmcgbgdljmaaGreatDoor
/-
  sort.Slice as the program's fields calls it: at fields (a key, a part), by the keys.
-/
namespace Go.Proofs.YtdhlmcgbgdljmaaGreatDoor
open Go.Shelf Go.RowKit Go.Lib Go.Sort
set_option linter.unusedVariables false
set_option linter.unusedSimpArgs false

/-- A field: its key's bytes, its part's type and what that holds. -/
def encF (x : List UInt8 × (TypeId × Value)) : List Value := [.string ⟨x.1.toArray⟩, .iface x.2.1 x.2.2]
/-- One field is ahead of another one. -/
def ltF (x y : List UInt8 × (TypeId × Value)) : Bool := Op.bytesLess x.1 y.1

theorem less_irrefl : ∀ a : List UInt8, Op.bytesLess a a = false
  | [] => rfl
  | x :: a => by
    have ih := less_irrefl a
    have h : ¬ x < x := UInt8.lt_irrefl x
    simp [Op.bytesLess, ih, h]

theorem less_trans : ∀ a b c : List UInt8, Op.bytesLess a b = true → Op.bytesLess b c = true → Op.bytesLess a c = true
  | [], b, [], _, h2 => by cases b <;> simp [Op.bytesLess] at h2
  | [], _, _ :: _, _, _ => rfl
  | _ :: _, [], _, h1, _ => by simp [Op.bytesLess] at h1
  | _ :: _, _ :: _, [], _, h2 => by simp [Op.bytesLess] at h2
  | x :: a, y :: b, z :: c, h1, h2 => by
    have ih := less_trans a b c
    simp only [Op.bytesLess, Bool.or_eq_true, decide_eq_true_eq, Bool.and_eq_true, beq_iff_eq] at h1 h2 ⊢
    rcases h1 with h1 | ⟨rfl, h1⟩
    · rcases h2 with h2 | ⟨rfl, h2⟩
      · exact .inl (UInt8.lt_trans h1 h2)
      · exact .inl h1
    · rcases h2 with h2 | ⟨rfl, h2⟩
      · exact .inl h2
      · exact .inr ⟨rfl, ih h1 h2⟩

theorem less_total : ∀ a b : List UInt8, Op.bytesLess a b = false → Op.bytesLess b a = false → a = b
  | [], [], _, _ => rfl
  | [], _ :: _, h, _ => by simp [Op.bytesLess] at h
  | _ :: _, [], _, h => by simp [Op.bytesLess] at h
  | x :: a, y :: b, h1, h2 => by
    have ih := less_total a b
    simp only [Op.bytesLess, Bool.or_eq_false_iff, decide_eq_false_iff_not, Bool.and_eq_false_iff, beq_eq_false_iff_ne] at h1 h2
    have e : x = y := UInt8.le_antisymm (UInt8.not_lt.1 h2.1) (UInt8.not_lt.1 h1.1)
    subst e
    rw [ih (h1.2.resolve_left (fun h => h rfl)) (h2.2.resolve_left (fun h => h rfl))]

theorem swo_ltF : SWO ltF where
  irrefl x := less_irrefl x.1
  trans x y z h1 h2 := less_trans x.1 y.1 z.1 h1 h2
  ntrans x y z h1 h2 := by
    show Op.bytesLess x.1 z.1 = false
    cases h : Op.bytesLess x.1 z.1 with
    | false => rfl
    | true =>
      have h1' : Op.bytesLess x.1 y.1 = false := h1
      have h2' : Op.bytesLess y.1 z.1 = false := h2
      cases h3 : Op.bytesLess y.1 x.1 with
      | true => rw [less_trans _ _ _ h3 h] at h2'; simp at h2'
      | false =>
        have e := less_total _ _ h1' h3
        rw [e] at h
        rw [h] at h2'
        simp at h2'

set_option maxHeartbeats 2000000 in
/-- The closure of fields. -/
theorem fields_less (blk off c Bs size : Nat) (W : World) (G : Nat → List UInt8) (hs : W.cell? ⟨Bs, 0, none⟩ = some (.slice (some ⟨blk, off, none⟩) size c))
    (hc : ∀ t, t < size → W.cell? ⟨blk, off + t * 2, none⟩ = some (.string ⟨(G t).toArray⟩)) (i j : Nat) (hi : i < size) (hj : j < size) (_hsz : size < 4611686018427387904) :
    Calls Tryz.prog 68 #[.int .i64 i, .int .i64 j, .pointer (some ⟨Bs, 0, none⟩)] W fun e w' => e = .returned (.bool (Op.bytesLess (G i) (G j))) ∧ ∃ q, w' = W.drewN q := by
  have ci := hc i hi
  have cj := hc j hj
  have hi' : (i : Int) < (size : Int) := by omega
  have hj' : (j : Int) < (size : Int) := by omega
  go_enter Tryz.func68, Tryz.ntmps68
  go_wp2
  go_quiet (fail)
  go_wp2
  go_ret
  exact ⟨ret_bool (by simp [ByteArray.toList_mk]), nq, rfl⟩
end Go.Proofs.YtdhlmcgbgdljmaaGreatDoor
