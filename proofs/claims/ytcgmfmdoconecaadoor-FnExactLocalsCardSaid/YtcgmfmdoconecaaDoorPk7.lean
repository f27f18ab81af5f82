/-
  Texts that a law leans on, one behind the other; no statement is proved here.
-/
import Derived.Test.YtcgmfmdoconecaaDoorPk5
import Derived.Test.YtcgmfmdoconecaaDoorPk6
import Derived.Test.YtcgmfmdoconecaaDoorPk1
import Derived.Lib.AppendStr
import Derived.Laws.IdiomStrings
import Derived.Shelf.Small.Bits
import Derived.Shelf.Strconv.Itoa0
import Derived.Shelf.Slices.CompactS
import Derived.Shelf.Slices.Cells
import Derived.Ground.SlgmProg
import Derived.Shelf.SortM.Plain
import Derived.Shelf.SortM.SortNone
import Derived.Test.YtcgmfmdoconecaaDoorProg
import Derived.Sort.Grow
import Derived.Lib.RowBridge
import Derived.Deep.Light
/-
  collectNames of the program: the names of all parts of a kind, behind those that are there.
-/
namespace Go.Proofs.YtcgmfmdoconecaaDoor
open Go.RowKit
set_option linter.unusedVariables false
set_option linter.unusedSimpArgs false

/-- The contract of collectNames at depth d. -/
def CNAt (k : Int) (d : Nat) : Prop := ∀ (N base : Nat) (x : Value) (os : List (List Int)) (c : Value × Value × Value × Value × Value) (v : Vl d) (w : World), VSeg (fun b => b < N) w d c v → N ≤ base → base ≤ w.heap.size → SR w base x os → os.length + partsE d v ≤ 500 →
  Calls Tryd.prog 35 #[x, .agg #[c.1, c.2.1, c.2.2.1, c.2.2.2.1, c.2.2.2.2], .int .i64 k] w fun e w' => ∃ y, e = .returned y ∧ SR w' base y (os ++ rawN k d v) ∧ w.grownBy w' x.ownBlock ∧ ∀ g, y.ownBlock = some g → x.ownBlock = some g ∨ w.heap.size ≤ g

/-- What holds ahead of round j. -/
def CN (k : Int) (d : Nat) (vL : List (Vl d)) (os1 : List (List Int)) (base : Nat) (x : Value) (w wr : World) (j : Nat) (y : Value) : Prop :=
  j ≤ vL.length ∧ SR wr base y (os1 ++ preN k d vL j) ∧ w.grownBy wr x.ownBlock ∧ ∀ g, y.ownBlock = some g → x.ownBlock = some g ∨ w.heap.size ≤ g

set_option maxHeartbeats 2000000 in
set_option maxRecDepth 100000 in
theorem collectNames_succ (k : Int) (d : Nat) (ih : CNAt k d) : CNAt k (d + 1) := by
  intro N base x os c v w hv hNb hbw hx hlen
  obtain ⟨c0, c1, c2, c3, c4⟩ := c
  obtain ⟨vk, vn, vs, vK, vL⟩ := v
  obtain ⟨e0, e1, ht, hk, hl⟩ := (VSeg_succ _ _ _ _ _).1 hv
  simp only at e0 e1 ht hk hl
  subst e0
  subst e1
  clear hv
  simp only
  have HL := hide' hl
  obtain ⟨a2, p2, rfl, s2, l2, m2, _, r2⟩ := ht
  obtain ⟨a3, p3, rfl, _, _, _, _⟩ := hk
  obtain ⟨a4, p4, rfl, hlc4, hcm4, _, _⟩ := hl
  unfold maxLen at hcm4
  have hp := partsE_succ d vk vn vs vK vL
  have hraw : rawN k (d + 1) (vk, vn, vs, vK, vL) = (if vk = k then [vs] else []) ++ (vL.map (rawN k d)).flatten := rfl
  rw [hp] at hlen
  have b0 : ∀ o : Obj, Below w.heap.size w (w.alloc o) := fun o => (Below.refl _ _).alloc (Nat.le_refl _) o
  have Hb := hide' b0
  have HI := hide' ih
  obtain ⟨os1, hos1⟩ : ∃ os1, os1 = os ++ (if vk = k then [vs] else []) := ⟨_, rfl⟩
  have hl1 : os1.length ≤ os.length + 1 := by
    rw [hos1, List.length_append]
    have h2 : (if vk = k then [vs] else []).length ≤ 1 := by split <;> simp
    omega
  have HEnd : Hid (os ++ rawN k (d + 1) (vk, vn, vs, vK, vL) = os1 ++ preN k d vL vL.length) := by
    show _ = _
    rw [hraw, ← List.append_assoc, ← hos1, preN_all]
  have HLen : Hid (∀ j (h : j < vL.length), (os1 ++ preN k d vL j).length + partsE d vL[j] ≤ 500) := fun j h => by
    rw [List.length_append]
    have h2 := preN_len k d vL j
    have h3 := pre_succ (partsE d) vL j h
    have h4 := pre_le (partsE d) vL (j + 1)
    have h5 := pre_all (partsE d) vL
    omega
  have hxb : ∀ g, x.ownBlock = some g → base ≤ g ∧ g < w.heap.size := fun g hg => World.ownsRow.lt hx g hg
  have HXB := hide' hxb
  have Hag : Hid (∀ wx, w.grownBy wx x.ownBlock → Agree (fun b => b < N) w wx) := fun wx hg b hb => hg.block b (by omega) (fun e => by have := hxb b e.symm; omega)
  have HX := hide' hx
  have HCv : Hid (∀ o : Obj, (convert 22 9 (.slice a2 vs.length p2)).run Tryd.prog (w.alloc o) = .ok (.string (strOf vs)) (w.alloc o)) := fun o => conv_seg p2 (s2.grow (b0 o))
  obtain ⟨xa, xc, rfl⟩ := hx.shape
  have hbox : ∀ o wx, (w.alloc o).grownBy wx (Value.slice xa os.length xc).ownBlock → wx.heap[w.heap.size]? = some o := fun o wx h => (h.block w.heap.size (by simp) (fun e => by have := hxb _ e.symm; omega)).trans (MapKept.heap_alloc w o).1
  have Hbox := hide' hbox
  clear s2 b0 hp hraw ih hx hxb hbox
  by_cases hk0 : vk = k
  · subst hk0
    have he1 : Hid (os1 = os ++ [vs]) := by show _ = _; rw [hos1]; simp
    have hcv := HCv.out
    have HXa : Hid (∀ o : Obj, SR (w.alloc o) base (.slice xa os.length xc) os) := fun o => World.ownsRow.alloc HX.out o
    have Hgal : Hid (∀ (o : Obj) (wx : World), (w.alloc o).grownBy wx (Value.slice xa os.length xc).ownBlock → w.grownBy wx (Value.slice xa os.length xc).ownBlock) := fun o wx h => grownE_trans (World.grownBy_alloc w _ _) h
    clear hos1 HCv
    go_enter Tryd.func35, Tryd.ntmps35
    go_wp2_with (at_builtin; refine wpList_SR_add rfl (.tmp 13) (.tmp 17) (by rfl) base (.slice xa os.length xc) os vs (by rfl) (HXa.out _) (w.heap.size + 1) (by simp) (by rfl) os.length rfl (by omega) (by simp; omega) ?_; intro ya yc w2 hR2 hg2 hloc2; obtain ⟨y0, y1, y2, y3, y4, _⟩ := row5 (Hbox.out _ _ hg2); have H0 : Hid (CN vk d vL os1 base (.slice xa os.length xc) w w2 0 (.slice ya (os.length + 1) yc)) := ⟨Nat.zero_le _, by rw [preN_zero, List.append_nil, he1.out]; exact hR2, Hgal.out _ _ hg2, loc_alloc hloc2⟩; clear hR2 hg2 hloc2)
    go_wp2
    go_loopw [0, 22] (fun y i wr => ∃ j : Nat, i = .int .i64 j ∧ CN vk d vL os1 base (.slice xa os.length xc) w wr j y) (fun _ i _ => vL.length - (intOf i).toNat)
    case atStart => exact ⟨0, rfl, H0.out⟩
    case round =>
      clear H0
      obtain ⟨j, rfl, hC⟩ := hrel
      have HC0 := hide' hC
      obtain ⟨hj, hR, hg, hloc⟩ := hC
      obtain ⟨ya, yc, rfl⟩ := hR.shape
      by_cases hlt : j < vL.length
      · have hlt' : (j : Int) < (vL.length : Int) := by omega
        have hag := Hag.out _ hg
        have hs := hg.size
        have hcell : ∃ b off c, a4 = some ⟨b, off, none⟩ ∧ Five wr b (off + j * 5) c ∧ VSeg (fun b => b < N) wr d c (vL[j]) := by
          obtain ⟨a', cap', e1, _, _, _, h5⟩ := HL.out
          simp only [Value.slice.injEq] at e1
          obtain ⟨rfl, _, _⟩ := e1
          rcases h5 with h0 | ⟨b, off, rfl, hRb, hcc⟩
          · rw [h0] at hlt; simp at hlt
          · obtain ⟨c, h5, hv⟩ := hcc j hlt
            exact ⟨b, off, c, rfl, h5.agree hag hRb, VSeg.agree hag d hv⟩
        obtain ⟨b, off, c, rfl, h5', hv⟩ := hcell
        obtain ⟨c0, c1, c2, c3, c4⟩ := c
        obtain ⟨q0, q1, q2, q3, q4⟩ := h5'
        simp only at q0 q1 q2 q3 q4
        obtain ⟨ck, cn, s2, l2', e2, s3, l3, e3, s4, l4, e4, rfl, rfl, rfl, rfl, rfl⟩ := VSeg.form d hv
        have hgW := World.grownBy_alloc wr (.cells #[.int .i64 ck, .int .i64 cn, .slice s2 l2' e2, .slice s3 l3 e3, .slice s4 l4 e4] 31) none
        have HC := hide' (HI.out N base _ _ _ vL[j] _ (VSeg.agree (fun b hb => hgW.block b (by omega) (by simp)) d hv) hNb (by simp; omega) (World.ownsRow.alloc hR _) (HLen.out j hlt))
        have HNx : Hid (∀ w2 y2, SR w2 base y2 ((os1 ++ preN vk d vL j) ++ rawN vk d vL[j]) → (wr.alloc (.cells #[.int .i64 ck, .int .i64 cn, .slice s2 l2' e2, .slice s3 l3 e3, .slice s4 l4 e4] 31)).grownBy w2 (Value.slice ya (os1 ++ preN vk d vL j).length yc).ownBlock → (∀ g, y2.ownBlock = some g → (Value.slice ya (os1 ++ preN vk d vL j).length yc).ownBlock = some g ∨ (wr.alloc (.cells #[.int .i64 ck, .int .i64 cn, .slice s2 l2' e2, .slice s3 l3 e3, .slice s4 l4 e4] 31)).heap.size ≤ g) → CN vk d vL os1 base (.slice xa os.length xc) w w2 (j + 1) y2) := by
          intro w2 y2 hR2 hg2 hl2
          refine ⟨hlt, by rw [preN_succ vk d vL j hlt, ← List.append_assoc]; exact hR2, grown_on (grown_on hg hgW (by simp)) hg2 hloc, fun g hg' => ?_⟩
          rcases hl2 g hg' with h | h
          · exact hloc g h
          · exact .inr (by simp at h; omega)
        generalize (os1 ++ preN vk d vL j).length = n1 at *
        clear hv hag hg hgW hR hloc
        go_wp2_with fail
        refine HC.out.mono ?_
        rintro e w2 ⟨y2, rfl, hR2, hg2, hl2⟩
        have HN := hide' (HNx.out w2 y2 hR2 hg2 hl2)
        obtain ⟨ya2, yc2, hy2⟩ := hR2.shape
        generalize ((os1 ++ preN vk d vL j) ++ rawN vk d vL[j]).length = n2 at *
        subst hy2
        clear q0 q1 q2 q3 q4 HC hR2 hg2 hl2 HNx
        go_wp2
        go_roundw
        case rel => exact ⟨j + 1, by go_num, HN.out⟩
        case measure => simp [intOf]; omega
      · have hkn : j = vL.length := by omega
        have hlt' : ¬ (j : Int) < (vL.length : Int) := by omega
        have HF : Hid (SR wr base (.slice ya (os1 ++ preN vk d vL j).length yc) (os ++ rawN vk (d + 1) (vk, vn, vs, vK, vL))) := by rw [HEnd.out, ← hkn]; exact hR
        clear hkn hR
        generalize (os1 ++ preN vk d vL j).length = n1 at *
        go_wp2
        go_ret
        exact ⟨_, rfl, HF.out, hg, hloc⟩
  · have he1 : os1 = os := by rw [hos1]; simp [hk0]
    have hk0' : (vk == k) = false := by simpa using hk0
    have H0 : Hid (CN k d vL os1 base (.slice xa os.length xc) w (w.alloc (.cells #[.int .i64 vk, .int .i64 vn, .slice a2 vs.length p2, .slice a3 vK.length p3, .slice a4 vL.length p4] 31)) 0 (.slice xa os.length xc)) := ⟨Nat.zero_le _, by rw [preN_zero, List.append_nil, he1]; exact World.ownsRow.alloc HX.out _, World.grownBy_alloc w _ _, fun g hg => .inl hg⟩
    clear hos1 HCv hk0 he1
    go_enter Tryd.func35, Tryd.ntmps35
    go_wp2
    go_loopw [0, 22] (fun y i wr => ∃ j : Nat, i = .int .i64 j ∧ CN k d vL os1 base (.slice xa os.length xc) w wr j y) (fun _ i _ => vL.length - (intOf i).toNat)
    case atStart => exact ⟨0, rfl, H0.out⟩
    case round =>
      clear H0
      obtain ⟨j, rfl, hC⟩ := hrel
      have HC0 := hide' hC
      obtain ⟨hj, hR, hg, hloc⟩ := hC
      obtain ⟨ya, yc, rfl⟩ := hR.shape
      by_cases hlt : j < vL.length
      · have hlt' : (j : Int) < (vL.length : Int) := by omega
        have hag := Hag.out _ hg
        have hs := hg.size
        have hcell : ∃ b off c, a4 = some ⟨b, off, none⟩ ∧ Five wr b (off + j * 5) c ∧ VSeg (fun b => b < N) wr d c (vL[j]) := by
          obtain ⟨a', cap', e1, _, _, _, h5⟩ := HL.out
          simp only [Value.slice.injEq] at e1
          obtain ⟨rfl, _, _⟩ := e1
          rcases h5 with h0 | ⟨b, off, rfl, hRb, hcc⟩
          · rw [h0] at hlt; simp at hlt
          · obtain ⟨c, h5, hv⟩ := hcc j hlt
            exact ⟨b, off, c, rfl, h5.agree hag hRb, VSeg.agree hag d hv⟩
        obtain ⟨b, off, c, rfl, h5', hv⟩ := hcell
        obtain ⟨c0, c1, c2, c3, c4⟩ := c
        obtain ⟨q0, q1, q2, q3, q4⟩ := h5'
        simp only at q0 q1 q2 q3 q4
        obtain ⟨ck, cn, s2, l2', e2, s3, l3, e3, s4, l4, e4, rfl, rfl, rfl, rfl, rfl⟩ := VSeg.form d hv
        have hgW := World.grownBy_alloc wr (.cells #[.int .i64 ck, .int .i64 cn, .slice s2 l2' e2, .slice s3 l3 e3, .slice s4 l4 e4] 31) none
        have HC := hide' (HI.out N base _ _ _ vL[j] _ (VSeg.agree (fun b hb => hgW.block b (by omega) (by simp)) d hv) hNb (by simp; omega) (World.ownsRow.alloc hR _) (HLen.out j hlt))
        have HNx : Hid (∀ w2 y2, SR w2 base y2 ((os1 ++ preN k d vL j) ++ rawN k d vL[j]) → (wr.alloc (.cells #[.int .i64 ck, .int .i64 cn, .slice s2 l2' e2, .slice s3 l3 e3, .slice s4 l4 e4] 31)).grownBy w2 (Value.slice ya (os1 ++ preN k d vL j).length yc).ownBlock → (∀ g, y2.ownBlock = some g → (Value.slice ya (os1 ++ preN k d vL j).length yc).ownBlock = some g ∨ (wr.alloc (.cells #[.int .i64 ck, .int .i64 cn, .slice s2 l2' e2, .slice s3 l3 e3, .slice s4 l4 e4] 31)).heap.size ≤ g) → CN k d vL os1 base (.slice xa os.length xc) w w2 (j + 1) y2) := by
          intro w2 y2 hR2 hg2 hl2
          refine ⟨hlt, by rw [preN_succ k d vL j hlt, ← List.append_assoc]; exact hR2, grown_on (grown_on hg hgW (by simp)) hg2 hloc, fun g hg' => ?_⟩
          rcases hl2 g hg' with h | h
          · exact hloc g h
          · exact .inr (by simp at h; omega)
        generalize (os1 ++ preN k d vL j).length = n1 at *
        clear hv hag hg hgW hR hloc
        go_wp2_with fail
        refine HC.out.mono ?_
        rintro e w2 ⟨y2, rfl, hR2, hg2, hl2⟩
        have HN := hide' (HNx.out w2 y2 hR2 hg2 hl2)
        obtain ⟨ya2, yc2, hy2⟩ := hR2.shape
        generalize ((os1 ++ preN k d vL j) ++ rawN k d vL[j]).length = n2 at *
        subst hy2
        clear q0 q1 q2 q3 q4 HC hR2 hg2 hl2 HNx
        go_wp2
        go_roundw
        case rel => exact ⟨j + 1, by go_num, HN.out⟩
        case measure => simp [intOf]; omega
      · have hkn : j = vL.length := by omega
        have hlt' : ¬ (j : Int) < (vL.length : Int) := by omega
        have HF : Hid (SR wr base (.slice ya (os1 ++ preN k d vL j).length yc) (os ++ rawN k (d + 1) (vk, vn, vs, vK, vL))) := by rw [HEnd.out, ← hkn]; exact hR
        clear hkn hR
        generalize (os1 ++ preN k d vL j).length = n1 at *
        go_wp2
        go_ret
        exact ⟨_, rfl, HF.out, hg, hloc⟩

theorem collectNames_any (k : Int) (d : Nat) : CNAt k d := by
  induction d with
  | zero => intro N base x os c v w hv; exact hv.elim
  | succ d ih => exact collectNames_succ k d ih
end Go.Proofs.YtcgmfmdoconecaaDoor
/-
  A string of bytes as cells; 'append(out, s...)' of a string.
-/
namespace Go.Proofs.YtcgmfmdoconecaaDoor
open Go.RowKit
set_option linter.unusedVariables false

theorem strCells_of {xs : List Int} (h : ∀ x ∈ xs, Byt x) : Lib.strCells (strOf xs) = cellsOf xs := by
  show (u8s xs).map (fun b => Value.int .u8 (b.toNat : Int)) = _
  unfold u8s cellsOf
  rw [List.map_map]
  refine List.map_congr_left fun x hx => ?_
  have hb := h x hx
  unfold Byt at hb
  simp
  omega

theorem size_strOf (xs : List Int) : (strOf xs).size = xs.length := by simp [strOf, ByteArray.size]

/-- 'append(out, s...)', out nil or the call's own, s a string: what is owned grows by the bytes of s. -/
theorem wpList_append_text {w : World} {ops : Array Oper} {rest : List Oper} {o : Oper} {a : Act} {Q : Exit → Act → World → Prop} (hgd : o.guard = none) (s x : Operand) (t : TypeId)
    (ho : o.op = .call { callee := .builtin .append, args := #[s, x], argTypes := #[22, t] }) (ht : Tryd.prog.underlying t = some .string)
    (base : Nat) (v : Value) (xs ys : List Int) (hs : a.eval s = v) (hB : Bts w base v xs) (sx : ByteArray) (hsx : sx = strOf ys) (hy : ∀ y ∈ ys, Byt y) (hx : a.eval x = .string sx)
    (hlen : xs.length + ys.length ≤ 1099511627776) (hbase : base ≤ w.heap.size)
    (h : ∀ v' w', Bts w' base v' (xs ++ ys) → w.grownBy w' v.ownBlock → wpList Tryd.prog ops Q rest (a.put o.dst v') w') : wpList Tryd.prog ops Q (o :: rest) a w := by
  obtain ⟨i0, hi, hz0, hz1, hz2⟩ := info_parts info5
  subst hsx
  have hsz := size_strOf ys
  refine Lib.wpList_append_own_string w hgd s x 22 t ho base 5 i0 Tryd.underlying22 ht hi hz0 hz1 hz2 v xs.length (cellsOf xs) hs hB.2 (strOf ys) hx (by unfold maxLen; omega) (by omega) hbase ?_
  intro v' w' hown hg _
  refine h v' w' ⟨?_, ?_⟩ hg
  · intro z hz
    rcases List.mem_append.1 hz with h1 | h1
    · exact hB.1 z h1
    · exact hy z h1
  · rw [strCells_of hy, hsz, ← cellsOf_append] at hown
    rw [List.length_append]
    exact hown

end Go.Proofs.YtcgmfmdoconecaaDoor
/-
  '[]byte(s)': a text of the call's own.
-/
namespace Go.Proofs.YtcgmfmdoconecaaDoor
open Go.RowKit
set_option linter.unusedVariables false
set_option linter.unusedSimpArgs false

/-- '[]byte(s)': a text of the call's own. -/
theorem conv_back (xs : List Int) (hx : ∀ x ∈ xs, Byt x) (hl : xs.length ≤ 1048576) (w : World) : ∃ cap wB, (convert 9 22 (.string (strOf xs))).run Tryd.prog w = .ok (.slice (some ⟨w.heap.size, 0, none⟩) xs.length cap) wB ∧
    TOwn wB (.slice (some ⟨w.heap.size, 0, none⟩) xs.length cap) xs [w.heap.size] ∧ Below w.heap.size w wB ∧ wB.heap.size = w.heap.size + 1 := by
  have hsz := size_strOf xs
  have hsc := strCells_of hx
  have hrun := run_bytes_of_string (P := Tryd.prog) w 9 22 5 (strOf xs) Tryd.underlying9 Tryd.underlying22 Tryd.underlying5
  rw [hsz] at hrun
  have hge := grownCap_ge w xs.length 0 5
  have hle := grownCap_le_maxLen w xs.length 0 5 (by unfold maxLen; omega)
  generalize grownCap w xs.length 0 5 = cap at hrun hge hle
  have hrs : (bytesRow (strOf xs) cap).size = cap := by
    have h1 : (strOf xs).data.size = xs.length := hsz
    simp [bytesRow, h1, hsz]
    omega
  have hrt : (bytesRow (strOf xs) cap).toList.take xs.length = cellsOf xs := by
    rw [← hsc]
    unfold bytesRow Lib.strCells
    rw [Array.toList_append, Array.toList_map, List.take_append_of_le_length (by simp; exact Nat.le_of_eq hsz.symm)]
    rw [List.take_of_length_le (by simp; exact Nat.le_of_eq hsz)]
  rw [hrs] at hrun
  refine ⟨cap, _, hrun, ⟨⟨hx, by simp [cellsOf], .inr ⟨w.heap.size, cap, _, _, rfl, heap_alloc_new w.drew _, .inr (Nat.le_refl _), hge, hle, hrs, hrt⟩⟩, .inr ⟨_, _, rfl, rfl⟩⟩, ((Below.refl _ w).drew).alloc (Nat.le_refl _) _, by simp⟩
end Go.Proofs.YtcgmfmdoconecaaDoor
/-
  DERIVED: THE SHELF's CONTRACTS AT THIS DUMP, IN PLAIN WORDS (tools/lay-plain.mjs out of 'TrydShelf.lean', which tools/lay-shelf.mjs wrote): THE SAME DECLARATIONS UNDER THE SAME NAMES: 'import', 'namespace', 'open', 'def', 'theorem' AND NOTHING ELSE: no command of the shelf's: FOR A HAND-IN. Each laying: the table of numbers ('.._ren') and one theorem, a field a fact of the dump's own or the kernel's comparison; each contract: ONE APPLICATION.
-/
namespace Go.Proofs
open Go.Shelf
def Tryd.lays194_ren : Go.Shelf.Ren := ⟨fun | 194 => 44 | n => n, fun | 31 => 52 | 9 => 9 | 3 => 3 | 4 => 4 | 0 => 0 | n => n, fun | n => n⟩
theorem Tryd.lays194 : Go.Proofs.Lays.n194 Tryd.prog Tryd.lays194_ren := {
  mixed := by kernel_rfl
  f194 := Tryd.func44.trans (congrArg some (by kernel_rfl))
  t0 := Tryd.underlying0
  a0 := Tryd.isAgg0
  z0 := Tryd.sizeOf0
  v0 := Tryd.zeroValue0
  t3 := Tryd.underlying3
  a3 := Tryd.isAgg3
  z3 := Tryd.sizeOf3
  v3 := Tryd.zeroValue3
  t4 := Tryd.underlying4
  a4 := Tryd.isAgg4
  z4 := Tryd.sizeOf4
  v4 := Tryd.zeroValue4
  t9 := Tryd.underlying9
  a9 := Tryd.isAgg9
  z9 := Tryd.sizeOf9
  v9 := Tryd.zeroValue9
  t31 := Tryd.underlying52
  a31 := Tryd.isAgg52
  z31 := Tryd.sizeOf52
  v31 := Tryd.zeroValue52 }
def Tryd.laysSlM6_f43_ren : Go.Shelf.Ren := ⟨fun | 6 => 43 | 8 => 47 | 9 => 46 | 19 => 59 | 20 => 60 | 21 => 50 | 22 => 51 | 23 => 52 | 24 => 53 | 25 => 54 | 26 => 55 | 27 => 56 | 28 => 57 | 29 => 58 | 36 => 65 | 31 => 66 | 32 => 67 | 37 => 68 | 38 => 69 | 39 => 70 | 41 => 73 | n => n, fun | 27 => 52 | 29 => 9 | 3 => 3 | 32 => 65 | 26 => 52 | 0 => 0 | 44 => 81 | 46 => 83 | 4 => 4 | 36 => 73 | 35 => 72 | 41 => 78 | 5 => 5 | 9 => 9 | 53 => 84 | 57 => 88 | 63 => 91 | 64 => 92 | n => n, fun | n => n⟩
theorem Tryd.laysSlM6_f43 : Go.Proofs.SlLaysM.n6 Tryd.prog Tryd.laysSlM6_f43_ren := {
  mixed := by kernel_rfl
  f6 := ⟨Tryd.f43.name, by decide, Tryd.func43.trans (congrArg some (by kernel_rfl))⟩
  f8 := Tryd.func47.trans (congrArg some (by kernel_rfl))
  f9 := ⟨Tryd.f46.name, by decide, Tryd.func46.trans (congrArg some (by kernel_rfl))⟩
  f19 := Tryd.func59.trans (congrArg some (by kernel_rfl))
  f20 := Tryd.func60.trans (congrArg some (by kernel_rfl))
  f21 := ⟨Tryd.f50.name, by decide, Tryd.func50.trans (congrArg some (by kernel_rfl))⟩
  f22 := ⟨Tryd.f51.name, by decide, Tryd.func51.trans (congrArg some (by kernel_rfl))⟩
  f23 := ⟨Tryd.f52.name, by decide, Tryd.func52.trans (congrArg some (by kernel_rfl))⟩
  f24 := ⟨Tryd.f53.name, by decide, Tryd.func53.trans (congrArg some (by kernel_rfl))⟩
  f25 := ⟨Tryd.f54.name, by decide, Tryd.func54.trans (congrArg some (by kernel_rfl))⟩
  f26 := ⟨Tryd.f55.name, by decide, Tryd.func55.trans (congrArg some (by kernel_rfl))⟩
  f27 := ⟨Tryd.f56.name, by decide, Tryd.func56.trans (congrArg some (by kernel_rfl))⟩
  f28 := ⟨Tryd.f57.name, by decide, Tryd.func57.trans (congrArg some (by kernel_rfl))⟩
  f29 := ⟨Tryd.f58.name, by decide, Tryd.func58.trans (congrArg some (by kernel_rfl))⟩
  f31 := Tryd.func66.trans (congrArg some (by kernel_rfl))
  f32 := Tryd.func67.trans (congrArg some (by kernel_rfl))
  f36 := ⟨Tryd.f65.name, by decide, Tryd.func65.trans (congrArg some (by kernel_rfl))⟩
  f37 := ⟨Tryd.f68.name, by decide, Tryd.func68.trans (congrArg some (by kernel_rfl))⟩
  f38 := ⟨Tryd.f69.name, by decide, Tryd.func69.trans (congrArg some (by kernel_rfl))⟩
  f39 := ⟨Tryd.f70.name, by decide, Tryd.func70.trans (congrArg some (by kernel_rfl))⟩
  f41 := ⟨Tryd.f73.name, by decide, Tryd.func73.trans (congrArg some (by kernel_rfl))⟩
  t0 := Tryd.underlying0
  a0 := Tryd.isAgg0
  z0 := Tryd.sizeOf0
  v0 := Tryd.zeroValue0
  t3 := Tryd.underlying3
  a3 := Tryd.isAgg3
  z3 := Tryd.sizeOf3
  v3 := Tryd.zeroValue3
  t4 := Tryd.underlying4
  a4 := Tryd.isAgg4
  z4 := Tryd.sizeOf4
  v4 := Tryd.zeroValue4
  t5 := Tryd.underlying5
  a5 := Tryd.isAgg5
  z5 := Tryd.sizeOf5
  v5 := Tryd.zeroValue5
  t9 := Tryd.underlying9
  a9 := Tryd.isAgg9
  z9 := Tryd.sizeOf9
  v9 := Tryd.zeroValue9
  t26 := Tryd.underlying52
  a26 := Tryd.isAgg52
  z26 := Tryd.sizeOf52
  v26 := Tryd.zeroValue52
  t27 := Tryd.underlying52
  a27 := Tryd.isAgg52
  z27 := Tryd.sizeOf52
  v27 := Tryd.zeroValue52
  t29 := Tryd.underlying9
  a29 := Tryd.isAgg9
  z29 := Tryd.sizeOf9
  v29 := Tryd.zeroValue9
  t32 := Tryd.underlying65
  a32 := Tryd.isAgg65
  z32 := Tryd.sizeOf65
  v32 := Tryd.zeroValue65
  t35 := Tryd.underlying72
  a35 := Tryd.isAgg72
  z35 := Tryd.sizeOf72
  v35 := Tryd.zeroValue72
  t36 := Tryd.underlying73
  a36 := Tryd.isAgg73
  z36 := Tryd.sizeOf73
  v36 := Tryd.zeroValue73
  t41 := Tryd.underlying78
  a41 := Tryd.isAgg78
  z41 := Tryd.sizeOf78
  v41 := Tryd.zeroValue78
  t44 := Tryd.underlying81
  a44 := Tryd.isAgg81
  z44 := Tryd.sizeOf81
  v44 := Tryd.zeroValue81
  t46 := Tryd.underlying83
  a46 := Tryd.isAgg83
  z46 := Tryd.sizeOf83
  v46 := Tryd.zeroValue83
  t53 := Tryd.underlying84
  a53 := Tryd.isAgg84
  z53 := Tryd.sizeOf84
  v53 := Tryd.zeroValue84
  t57 := Tryd.underlying88
  a57 := Tryd.isAgg88
  z57 := Tryd.sizeOf88
  v57 := Tryd.zeroValue88
  t63 := Tryd.underlying91
  a63 := Tryd.isAgg91
  z63 := Tryd.sizeOf91
  v63 := Tryd.zeroValue91
  t64 := Tryd.underlying92
  a64 := Tryd.isAgg92
  z64 := Tryd.sizeOf92
  v64 := Tryd.zeroValue92 }
open Go.RowKit Go.Lib Go.Sort in
/-- slices.Compact at []string: "Compact replaces consecutive runs of equal elements with a single copy. This is like the uniq command found on Unix. Compact modifies the contents of the slice s and returns the modified slice, which may have a smaller length. Compact zeroes the elements between the new length and the original length. The result preserves the nilness of s.": IT RETURNS THE SLICE CUT TO 'Lib.compact zs'; ITS CELLS HOLD 'Lib.compact zs', THEN ZERO VALUES up to the old length; all else is as it was, but for the count of draws. IN THE WORDS OF slices.Sort's CONTRACT ('Holds', 'putRow'): so the everyday 'slices.Sort(xs); xs = slices.Compact(xs)' goes from the one contract to the other. It asks 'zs.length ≤ cap' (every slice's: the reslicing 's[:k]' looks at it). Length 0, nil: '.._empty'. (LAID: no walk: one application.) -/
theorem Tryd.slices_Compact_string (blk off cap : Nat) (zs : List (List UInt8)) (w : World) (hH : Holds encStr w blk off zs.toArray) (hsz : zs.length ≤ 9223372036854775807) (hcap : zs.length ≤ cap) :
    Calls Tryd.prog 44 #[.slice (some ⟨blk, off, none⟩) zs.length cap] w fun e w' => e = .returned (.slice (some ⟨blk, off, none⟩) (Lib.compact zs).length cap) ∧ ∃ q, w' = putRow encStr (Sort.ahead w q) blk off (Lib.compact zs ++ List.replicate (zs.length - (Lib.compact zs).length) []).toArray := Any.slices_Compact_string Tryd.lays194 blk off cap zs w hH hsz hcap
open Go.RowKit Go.Lib Go.Sort in
/-- The same at a slice of length 0, a nil one too: it comes back as it is. (LAID: no walk: one application.) -/
theorem Tryd.slices_Compact_string_empty (a : Option Addr) (cap : Nat) (w : World) :
    Calls Tryd.prog 44 #[.slice a 0 cap] w fun e w' => e = .returned (.slice a 0 cap) ∧ w' = w := Any.slices_Compact_string_empty Tryd.lays194 a cap w
open Go.Sort Go.RowKit in
theorem Tryd.slices_Sort_string (blk off cap : Nat) (ss : List (List UInt8)) (w : World) (hH : Holds encStr w blk off ss.toArray) (hblk : blk < w.heap.size) (hsz : ss.length < 4611686018427387904) :
    Calls Tryd.prog 43 #[.slice (some ⟨blk, off, none⟩) ss.length cap] w fun e w' =>
      e = .returned (.tuple #[]) ∧ ∃ n os, w' = grow (putRow encStr (Sort.ahead w n) blk off (ss.mergeSort fun x y => decide (x ≤ y)).toArray) os := AnyM.slices_Sort_string Tryd.laysSlM6_f43 blk off cap ss w hH hblk hsz
open Go.RowKit Go.Sort in
/-- .. and plain. (LAID AT THE INSTANCE 'slices.Sort[[]string,string]': no walk: one application.) -/
theorem Tryd.slices_Sort_string_none (p : Option Addr) (cap : Nat) (w : World) :
    Calls Tryd.prog 43 #[.slice p 0 cap] w fun e w' => e = .returned (.tuple #[]) ∧ w' = w := AnyM.slices_Sort_string_none Tryd.laysSlM6_f43 p cap w
end Go.Proofs
/-
  The library's sort and Compact at a row of texts of the call's own.
-/
namespace Go.Proofs.YtcgmfmdoconecaaDoor
open Go.RowKit Go.Sort
set_option linter.unusedVariables false
set_option linter.unusedSimpArgs false

/-- The slice holds texts, in a block from 'base' on. -/
def HS (w : World) (base : Nat) (y : Value) (ss : List (List UInt8)) : Prop :=
  ∃ a cap, y = .slice a ss.length cap ∧ (ss = [] ∨ ∃ g, a = some ⟨g, 0, none⟩ ∧ base ≤ g ∧ g < w.heap.size ∧ Holds encStr w g 0 ss.toArray ∧ ss.length ≤ cap)

theorem grownBy_sortS {w : World} {g n : Nat} {os : Array Obj} (d : Array (List UInt8)) : w.grownBy (grow (putRow encStr (Sort.ahead w n) g 0 d) os) (some g) := by
  refine ⟨rfl, rfl, rfl, by simp [grow, putRow, mapBlock, Sort.ahead], fun k hk hne => ?_⟩
  rw [heap_grow_old _ _ (by simpa [putRow, mapBlock, Sort.ahead] using hk)]
  have : g ≠ k := fun e => hne (by rw [e])
  simp [putRow, mapBlock, Sort.ahead, Array.getElem?_modify, this]

theorem grownBy_putS {w : World} {g n : Nat} (d : Array (List UInt8)) : w.grownBy (putRow encStr (Sort.ahead w n) g 0 d) (some g) := by
  refine ⟨rfl, rfl, rfl, by simp [putRow, mapBlock, Sort.ahead], fun k hk hne => ?_⟩
  have : g ≠ k := fun e => hne (by rw [e])
  simp [putRow, mapBlock, Sort.ahead, Array.getElem?_modify, this]

theorem size_putS (w : World) (g n : Nat) (d : Array (List UInt8)) : (putRow encStr (Sort.ahead w n) g 0 d).heap.size = w.heap.size := by simp [putRow, mapBlock, Sort.ahead]

theorem sort_any (base : Nat) (y : Value) (ss : List (List UInt8)) (w : World) (h : HS w base y ss) (hl : ss.length ≤ 1000) (hb : base ≤ w.heap.size) :
    Calls Tryd.prog 43 #[y] w fun e w' => e = .returned (.tuple #[]) ∧ HS w' base y (ss.mergeSort fun x y => decide (x ≤ y)) ∧ Below base w w' := by
  obtain ⟨a, cap, rfl, h0 | ⟨g, rfl, hg, hgl, hH, hc⟩⟩ := h
  · subst h0
    refine (Tryd.slices_Sort_string_none a cap w).mono ?_
    rintro e w' ⟨rfl, rfl⟩
    exact ⟨rfl, ⟨a, cap, by simp, .inl (by simp)⟩, Below.refl _ _⟩
  · refine (Tryd.slices_Sort_string g 0 cap ss w hH hgl (by omega)).mono ?_
    rintro e w' ⟨rfl, n, os, rfl⟩
    have hsz : (ss.mergeSort fun x y => decide (x ≤ y)).toArray.size = ss.toArray.size := by simp
    refine ⟨rfl, ⟨some ⟨g, 0, none⟩, cap, by simp, .inr ⟨g, rfl, hg, ?_, ?_, by simpa using hc⟩⟩, (Below.refl base w).grown (grownBy_sortS _) hb (by intro j hj; simp at hj; omega)⟩
    · have := (grownBy_sortS (w := w) (g := g) (n := n) (os := os) (ss.mergeSort fun x y => decide (x ≤ y)).toArray).size
      omega
    · exact holds_grow _ _ _ g 0 _ (by rw [size_putS]; exact hgl) (holds_putRow _ _ g 0 ss.toArray _ (holds_ahead _ _ _ _ _ _ hH) hsz)

theorem holds_take {w : World} {g : Nat} {xs ys : List (List UInt8)} (h : Holds encStr w g 0 (xs ++ ys).toArray) : Holds encStr w g 0 xs.toArray := by
  intro j hj
  have hj' : j < xs.length := by simpa using hj
  have h1 := h j (by simp; omega)
  have e1 : (xs ++ ys).toArray[j]! = xs.toArray[j]! := by simp [getElem!_def, List.getElem?_append_left hj']
  rw [e1] at h1
  exact h1

theorem compact_any (base : Nat) (y : Value) (ss : List (List UInt8)) (w : World) (h : HS w base y ss) (hl : ss.length ≤ 1000) (hb : base ≤ w.heap.size) :
    Calls Tryd.prog 44 #[y] w fun e w' => ∃ z, e = .returned z ∧ HS w' base z (Lib.compact ss) ∧ Below base w w' := by
  obtain ⟨a, cap, rfl, h0 | ⟨g, rfl, hg, hgl, hH, hc⟩⟩ := h
  · subst h0
    refine (Tryd.slices_Compact_string_empty a cap w).mono ?_
    rintro e w' ⟨rfl, rfl⟩
    exact ⟨_, rfl, ⟨a, cap, rfl, .inl rfl⟩, Below.refl _ _⟩
  · refine (Tryd.slices_Compact_string g 0 cap ss w hH (by omega) hc).mono ?_
    rintro e w' ⟨rfl, q, rfl⟩
    have hle := Lib.compact_length_le ss
    refine ⟨_, rfl, ⟨some ⟨g, 0, none⟩, cap, rfl, .inr ⟨g, rfl, hg, by rw [size_putS]; exact hgl, ?_, by omega⟩⟩, (Below.refl base w).grown (grownBy_putS _) hb (by intro j hj; simp at hj; omega)⟩
    exact holds_take (holds_putRow _ _ g 0 ss.toArray _ (holds_ahead _ _ _ _ _ _ hH) (by simp; omega))

/-- A row of texts, as the sort speaks of it. -/
theorem SR.hs {w : World} {base : Nat} {v : Value} {os : List (List Int)} (h : SR w base v os) : HS w base v (os.map u8s) := by
  have h' : w.ownsRow base 9 1 v os.length (strC os) := h
  obtain ⟨h2, h3⟩ := h
  rcases h3 with ⟨rfl, h0⟩ | ⟨g, cap, cur, rfl, hg, hh, hle, _⟩
  · exact ⟨none, 0, by simp [h0], .inl (by simp [List.eq_nil_of_length_eq_zero h0])⟩
  · refine ⟨some ⟨g, 0, none⟩, cap, by simp, .inr ⟨g, rfl, hg, (Array.getElem?_eq_some_iff.1 hh).1, fun j hj => ?_, by simpa using hle⟩⟩
    have hj' : j < os.length := by simpa using hj
    refine ⟨?_, by rw [Nat.zero_add]; exact h'.frozenAt j⟩
    rw [Nat.zero_add, World.ownsRow.cellAt h' j (by omega)]
    simp [strC, hj', strOf, u8s, encStr]
end Go.Proofs.YtcgmfmdoconecaaDoor
/-
  One more text in a row of texts of the call's own, the text being made by a conversion.
-/
namespace Go.Proofs.YtcgmfmdoconecaaDoor
open Go.RowKit
set_option linter.unusedVariables false
set_option linter.unusedSimpArgs false

theorem rwk_stepT {w1 wr w5 w6 : World} {ks : List (List Int)} {x v5 : Value} {k g cp : Nat} {cs : List (List Value)} {Bi : List (List Nat)} {Bv : List Nat} {o : Obj} (h : RW 22 1 (ItK ks) wr w1.heap.size x k cs Bi) (hb : Below w1.heap.size w1 wr) (b5 : Below wr.heap.size wr w5) (hT : TOwn w5 v5 (ks.getD k []) Bv)
    (hBv : ∀ b ∈ Bv, wr.heap.size ≤ b ∧ b < w5.heap.size) (hBn : Bv.Nodup) (hown : w6.ownsRow w1.heap.size 22 1 (.slice (some ⟨g, 0, none⟩) (k + 1) cp) (k + 1) (cs.flatten ++ [v5])) (hg : (w5.alloc o).grownBy w6 x.ownBlock) (hat : x.ownBlock = some g ∨ g = w5.heap.size + 1) :
    ∃ cs' Bi', RW 22 1 (ItK ks) w6 w1.heap.size (.slice (some ⟨g, 0, none⟩) (k + 1) cp) (k + 1) cs' Bi' ∧ Below w1.heap.size w1 w6 := by
  have hz := hb.size
  have hz5 := b5.size
  have hxlt := h.2.2.1.lt
  refine ⟨_, _, RW.add (w2 := w5.alloc o) (ItK.agree ks) h (fun b hb => (Below.heap_alloc _ _ _ (by omega)).trans (b5.block b hb)) (by simp; omega) ⟨v5, rfl, hT.agree fun b hb => Below.heap_alloc _ _ _ (hBv b hb).2⟩ (fun b hb => by have := hBv b hb; simp; omega) hBn hz hown hg (by simpa using hat), ?_⟩
  exact ((Below.on hb b5).alloc (by omega) o).grown hg (by simp; omega) (fun j hj => (hxlt j hj).1)

end Go.Proofs.YtcgmfmdoconecaaDoor
/-
  ascending of the program: texts in order, no two alike.
-/
namespace Go.Proofs.YtcgmfmdoconecaaDoor
open Go.RowKit
set_option linter.unusedVariables false
set_option linter.unusedSimpArgs false

theorem name_byt {xs : List Int} (h : nameB xs = true) : ∀ x ∈ xs, Byt x := by
  simp only [nameB, Bool.and_eq_true, List.all_eq_true] at h
  intro x hx
  have := h.2 x hx
  simp only [letB, Bool.and_eq_true, decide_eq_true_eq] at this
  exact ⟨by omega, by omega⟩

theorem name_len {xs : List Int} (h : nameB xs = true) : xs.length ≤ 8 := by
  simp only [nameB, Bool.and_eq_true, decide_eq_true_eq] at h
  exact h.1.2

theorem HS.at {w wr : World} {base : Nat} {a : Option Addr} {n cap : Nat} {os : List (List Int)} (h : HS w base (.slice a n cap) (os.map u8s)) (hb : Below w.heap.size w wr) {j : Nat} (hj : j < os.length) :
    ∃ g, a = some ⟨g, 0, none⟩ ∧ wr.cell? ⟨g, j, none⟩ = some (.string (strOf (os.getD j []))) := by
  obtain ⟨a', cap', e, h0 | ⟨g, rfl, _, hgl, hH, _⟩⟩ := h
  · simp at h0
    subst h0
    simp at hj
  · simp only [Value.slice.injEq] at e
    obtain ⟨rfl, _, _⟩ := e
    have h1 := (hH j (by simpa using hj)).1
    rw [Nat.zero_add] at h1
    refine ⟨g, rfl, (World.cell?_of_block (hb.block g hgl)).trans (h1.trans ?_)⟩
    simp [hj, strOf, u8s, encStr, getElem!_def, List.getD_eq_getElem?_getD]

/-- What ascending leaves. -/
def AsEnd (base : Nat) (raw : List (List Int)) (w : World) (e : Ending) (w' : World) : Prop := ∃ u, e = .returned u ∧ ∃ B, KOwn w' u (raw.foldl insN []) B ∧ (∀ b ∈ B, w.heap.size ≤ b ∧ b < w'.heap.size) ∧ Below base w w'

set_option maxHeartbeats 3000000 in
set_option maxRecDepth 100000 in
theorem ascending_any (base : Nat) (y : Value) (raw : List (List Int)) (w : World) (hR : HS w base y (raw.map u8s)) (hb : base ≤ w.heap.size) (hl : raw.length ≤ 1000) (hn : ∀ x ∈ raw, nameB x = true) :
    Calls Tryd.prog 34 #[y] w (AsEnd base raw w) := by
  obtain ⟨iT, hiT, hy0, hy1, hy2⟩ := info_parts infoT
  have hmem : ∀ i, i < (raw.foldl insN []).length → nameB ((raw.foldl insN []).getD i []) = true := fun i hi => by
    have hm : (raw.foldl insN []).getD i [] ∈ raw.foldl insN [] := by
      rw [List.getD_eq_getElem?_getD, List.getElem?_eq_getElem hi]
      exact List.getElem_mem hi
    rcases mem_fold _ _ _ hm with h1 | h1
    · exact hn _ h1
    · simp at h1
  have hnl := fold_len raw []
  simp only [List.length_nil, Nat.zero_add] at hnl
  have N3 : Hid (∀ i, i < (raw.foldl insN []).length → ∀ x ∈ (raw.foldl insN []).getD i [], Byt x) := fun i hi => name_byt (hmem i hi)
  have N2 : Hid (∀ i, i < (raw.foldl insN []).length → ((raw.foldl insN []).getD i []).length ≤ 8) := fun i hi => name_len (hmem i hi)
  have HSo := hide' (sort_any base y _ w hR (by simp; omega) hb)
  have HCo : Hid (∀ y wx, base ≤ wx.heap.size → HS wx base y ((raw.map u8s).mergeSort fun x y => decide (x ≤ y)) → Calls Tryd.prog 44 #[y] wx fun e w' => ∃ z, e = .returned z ∧ HS w' base z ((raw.foldl insN []).map u8s) ∧ Below base wx w') := fun y wx hz h => by
    rw [← names_same]
    exact compact_any base y _ wx h (by simp; omega) hz
  have hle : (raw.foldl insN []).length ≤ 1000 := by omega
  show Calls _ _ _ _ fun e w' => ∃ u, e = .returned u ∧ ∃ B, KOwn w' u (raw.foldl insN []) B ∧ (∀ b ∈ B, w.heap.size ≤ b ∧ b < w'.heap.size) ∧ Below base w w'
  generalize raw.foldl insN [] = names at *
  generalize hrs : raw.map u8s = rs at *
  obtain ⟨ya, yc, rfl, _⟩ := hR
  generalize rs.length = rl at *
  clear hmem hnl hn hl hrs
  go_enter Tryd.func34, Tryd.ntmps34
  go_wp2_with fail
  refine HSo.out.mono ?_
  rintro e w3 ⟨rfl, hR3, b3⟩
  have hz3 := b3.size
  have HC3 := hide' (HCo.out _ w3 (by omega) hR3)
  have HB3 := hide' b3
  clear b3 hR3 HSo
  go_wp2_with fail
  refine HC3.out.mono ?_
  rintro e w4 ⟨z, rfl, hR4, b4⟩
  have hz34 := b4.size
  have HB4 := hide' (HB3.out.trans b4)
  have HR4 := hide' hR4
  obtain ⟨za, zc, rfl, _⟩ := hR4
  have hml : (names.map u8s).length = names.length := by simp
  rw [hml] at HR4
  rw [hml]
  clear b4 HC3 HB3 hml
  go_wp2
  go_loopw [3, 11] (fun x i wr => ∃ j : Nat, j ≤ names.length ∧ i = .int .i64 j ∧ ∃ cs Bi, RW 22 1 (ItK names) wr w4.heap.size x j cs Bi ∧ Below w4.heap.size w4 wr) (fun _ i _ => names.length - (intOf i).toNat)
  case atStart => exact ⟨0, Nat.zero_le _, rfl, _, _, RW.nil _ _ _ _ _, Below.refl _ _⟩
  case round =>
    obtain ⟨j, hj, rfl, cs, Bi, hR, hbel⟩ := hrel
    have hsz := hbel.size
    have hvK : ∃ p c, u3 = .slice p j c := by
      rcases hR.2.2.1.2 with ⟨rfl, h0⟩ | ⟨g, cap, cur, rfl, _⟩
      · exact ⟨none, 0, by rw [h0]⟩
      · exact ⟨_, _, rfl⟩
    obtain ⟨pK, cK, rfl⟩ := hvK
    by_cases hjn : j < names.length
    · have hjn' : (j : Int) < (names.length : Int) := by omega
      obtain ⟨g, rfl, hcell⟩ := HR4.out.at hbel hjn
      have hlk := N2.out j hjn
      obtain ⟨ck', wB, hconv, hTo, hBb, hzB⟩ := conv_back (names.getD j []) (N3.out j hjn) (by omega) wr
      have HR := hide' (And.intro hR hbel)
      have hrowK : wB.ownsRow w4.heap.size 22 1 (.slice pK j cK) j cs.flatten := hR.2.2.1.kept (row := none) ⟨hBb.os, hBb.tape, hBb.output, hBb.size, fun k hk _ => hBb.block k hk⟩ (by cases hv : (Value.slice pK j cK).ownBlock <;> simp)
      have HTo := hide' hTo
      have HBb := hide' hBb
      have HzB := hide' hzB
      have HRK := hide' hrowK
      generalize hks : names.getD j [] = xs at *
      have Hks := hide' hks
      generalize hnk : xs.length = nk at *
      generalize strOf xs = sx at *
      clear hR hbel hks hTo hBb hzB hrowK hnk
      go_wp2_with (at_builtin; refine wpList_append_lies _ rfl (.tmp 15) (.tmp 18) 23 (by rfl) w4.heap.size 22 iT (.slice none 0 0) 1 24 Tryd.underlying23 hiT hy0 hy1 hy2 rfl (by decide) (.slice pK j cK) j cs.flatten (by rfl) (HRK.out.alloc _) ⟨wB.heap.size, 0, none⟩ 1 1 [.slice (some ⟨wr.heap.size, 0, none⟩) nk ck'] (by rfl) (by rfl) (World.news_of_block (cs := #[.slice (some ⟨wr.heap.size, 0, none⟩) nk ck']) (t := 22) (fr := (0, 0)) (heap_alloc_new wB _)) (by simp [Value.oneCell']) (by omega) (by unfold maxLen; omega) (by omega) (by have := HzB.out; simp; omega) (wB.heap.size + 1) (by simp) ?_; intro g6 cp6 w6 hown6 hg6 hat6 hlt6; obtain ⟨cs', Bi', hR6, hB6⟩ := rwk_stepT HR.out.1 HR.out.2 HBb.out (by rw [Hks.out]; exact HTo.out) (by have := HzB.out; intro b hb; simp at hb; omega) (by simp) hown6 hg6 hat6; replace hR6 := hide' hR6; replace hB6 := hide' hB6; clear hown6 hg6 hat6 hlt6)
      go_wp2
      go_roundw
      case rel => exact ⟨j + 1, by omega, by go_num, _, _, hR6.out, hB6.out⟩
      case measure => simp [intOf]; omega
    · have hjn' : j = names.length := by omega
      subst hjn'
      have hkl' : ¬ (names.length : Int) < (names.length : Int) := by omega
      have HR := hide' (And.intro hR hbel)
      clear hR hbel
      go_wp2_with fail
      go_ret
      have hbd := HR.out.1.2.2.2.2.2
      have hz4 := HB4.out.size
      have hz4' : base ≤ w4.heap.size := by omega
      exact ⟨_, rfl, _, HR.out.1.kown, fun b hb => by have := hbd b hb; omega, HB4.out.trans (HR.out.2.mono hz4')⟩
end Go.Proofs.YtcgmfmdoconecaaDoor
/-
  l6arity of the specification; l6expr where something is wrong ahead of the kids.
-/
namespace Go.Proofs.YtcgmfmdoconecaaDoor
open Go.RowKit
set_option linter.unusedVariables false
set_option linter.unusedSimpArgs false

set_option maxHeartbeats 1600000 in
theorem l6arity_any (k : Int) (w : World) :
    Calls Tryd.prog 36 #[.int .i64 k] w fun e w' => e = .returned (.int .i64 (arI k)) ∧ w = w' := by
  go_enter Tryd.func36, Tryd.ntmps36
  go_wp2
  all_goals first
    | (exfalso; simp_all; done)
    | (go_ret; refine ⟨ret_i64 ?_, rfl⟩; simp_all [arI]; done)
    | (go_ret; refine ⟨ret_i64 ?_, rfl⟩; simp_all [arI]; omega)

/-- What is asked of one part ahead of its kids and of its keys' order. -/
def hdR (kb : Bool) (q m n : Int) (l3 l4 : Nat) (sb : Bool) : Bool :=
  (if kb then decide (l3 = l4) else decide (l3 = 0)) && (decide (q = -1) || decide (q = l4)) && decide (0 ≤ n) && decide (n ≤ m) && sb

set_option maxHeartbeats 4000000 in
set_option maxRecDepth 100000 in
theorem l6bad_other (k : Int) (k0 : 0 ≤ k) (k24 : k ≤ 23) (k1 : ¬ k = 1) (k2 : ¬ k = 2) (k3 : ¬ k = 3) (k4 : ¬ k = 4) (k5 : ¬ k = 5) (k6 : ¬ k = 6) (k7 : ¬ k = 7) (k8 : ¬ k = 8) (k23 : ¬ k = 23) (n : Int) (a2 a3 a4 : Option Addr) (p2 p3 p4 l2 l3 l4 : Nat) (deep : Nat) (left : Int) (w : World)
    (h1 : 1 ≤ left) (h2 : left ≤ 150) (h3 : deep ≤ 10) (hl2 : l2 ≤ maxLen) (hl3 : l3 ≤ maxLen) (hl4 : l4 ≤ maxLen) (hq : -1 ≤ arI k ∧ arI k ≤ 3) (hbad : hdR false (arI k) 0 n l3 l4 (decide (l2 = 0)) = false) :
    Calls Tryd.prog 31 #[.agg #[.int .i64 k, .int .i64 n, .slice a2 l2 p2, .slice a3 l3 p3, .slice a4 l4 p4], .int .i64 deep, .int .i64 left] w fun e w' => e = .returned (.int .i64 (-1)) ∧ Below w.heap.size w w' := by
  have b0 : ∀ o : Obj, Below w.heap.size w (w.alloc o) := fun o => (Below.refl _ _).alloc (Nat.le_refl _) o
  have Hb := hide' b0
  have HAr : Hid (∀ wx, Calls Tryd.prog 36 #[.int .i64 k] wx fun e w' => e = .returned (.int .i64 (arI k)) ∧ wx = w') := fun wx => l6arity_any k wx
  have Hbad := hide' hbad
  generalize arI k = q at *
  have d1 : ¬ left - 1 < 0 := by omega
  have d2 : ¬ (10 : Int) < (deep : Int) := by omega
  have d3 : ¬ k < 0 := by omega
  have d4 : ¬ (23 : Int) < k := by omega
  have e5 : (k == 5) = false := by simpa using k5
  have e5' : (k != 5) = true := by simpa using k5
  obtain ⟨q1, q2⟩ := hq
  unfold maxLen at hl2 hl3 hl4
  clear b0 hbad
  go_enter Tryd.func31, Tryd.ntmps31
  go_wp2_with (go_at_call 36; refine (HAr.out _).mono ?_; rintro e w1 ⟨rfl, e1⟩; obtain rfl := e1)
  all_goals first
    | (go_ret; exact ⟨rfl, Hb.out _⟩)
    | (exfalso; have hbad := Hbad.out; clear Hbad HAr Hb; go_light; simp [hdR] at hbad; simp_all <;> omega)
end Go.Proofs.YtcgmfmdoconecaaDoor
