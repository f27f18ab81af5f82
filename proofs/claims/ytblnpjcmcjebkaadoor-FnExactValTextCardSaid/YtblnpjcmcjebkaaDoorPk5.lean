/-
  Texts that a law leans on, one behind the other; no statement is proved here.
-/
import Derived.Test.YtblnpjcmcjebkaaDoorPk4
import Derived.Test.YtblnpjcmcjebkaaDoorPk0
import Derived.Test.YtblnpjcmcjebkaaDoorPk2
import Derived.Deep.AppendLies
import Derived.Lib.AppendStr
import Derived.Laws.IdiomStrings
import Derived.Test.YtblnpjcmcjebkaaDoorPk3
/-
  l2quoted of the specification.
-/
namespace Go.Proofs.YtblnpjcmcjebkaaDoor
open Go.RowKit
set_option linter.unusedVariables false
set_option linter.unusedSimpArgs false

theorem Seg.byte {w : World} {b off : Nat} {ts : List Int} (h : Seg w (some ⟨b, off, none⟩) ts) {k : Nat} (hk : k < ts.length) : w.cell? ⟨b, off + k, none⟩ = some (.int .u8 ts[k]) := by
  obtain ⟨b', off', e, hc⟩ := h.at hk
  simp only [Option.some.injEq, Addr.mk.injEq] at e
  obtain ⟨rfl, rfl, _⟩ := e
  rw [hc]
  simp [List.getD_eq_getElem?_getD, hk]

set_option maxHeartbeats 1600000 in
set_option maxRecDepth 100000 in
theorem l2quoted_any (a : Option Addr) (cap : Nat) (ts : List Int) (w : World) (hs : Seg w a ts) (hl : ts.length ≤ 1000) :
    Calls Tryd.prog 29 #[.slice a ts.length cap] w fun e w' => ∃ u, e = .returned u ∧ Bts w' w.heap.size u (quoT ts) ∧ Below w.heap.size w w' := by
  have hB0 := bts_one w 34 (by unfold Byt; omega)
  have hb0 : Below w.heap.size w (w.alloc (.cells #[.int .u8 34] 5)) := (Below.refl _ _).alloc (Nat.le_refl _) _
  have HS := hide' hs
  generalize hn : ts.length = n at *
  have Hn : Hid (n = ts.length) := hn.symm
  clear hn hs
  go_enter Tryd.func29, Tryd.ntmps29
  go_wp2
  go_loopw [3, 4] (fun y i wr => ∃ k : Nat, k ≤ n ∧ i = .int .i64 k ∧ Hid (Bts wr w.heap.size y (34 :: escQ (ts.take k))) ∧ Below w.heap.size w wr) (fun _ i _ => n - (intOf i).toNat)
  case atStart => exact ⟨0, Nat.zero_le _, rfl, hB0, hb0⟩
  case round =>
    obtain ⟨k, hk, rfl, hB, B⟩ := hrel
    obtain ⟨ya, yc, rfl, _, _, _, _, kk⟩ := hB.out.shape
    have hz := B.size
    have hk2 : (34 :: escQ (ts.take k)).length ≤ 3000 := by
      have h1 := escQ_len (ts.take k)
      have h2 : (ts.take k).length ≤ ts.length := by simp [List.length_take]; omega
      have := Hn.out
      simp; omega
    have HOwn := hide' hB.out.own
    by_cases hlt : k < n
    · have hlt' : (k : Int) < (n : Int) := by omega
      have hlt0 : k < ts.length := by have := Hn.out; omega
      obtain ⟨b, off, rfl, hdrop⟩ := (HS.out.grow B).at hlt0
      clear hdrop
      have hst := escQ_step ts k hlt0
      have hcb : Byt ts[k] := HS.out.1 _ (List.getElem_mem hlt0)
      have HCell : Hid (∀ wx, Below w.heap.size w wx → wx.cell? ⟨b, off + k, none⟩ = some (.int .u8 ts[k])) := fun wx hb => (HS.out.grow hb).byte hlt0
      generalize ts[k] = c at *
      have hc := HCell.out wr B
      have hS92 : Seg (wr.alloc (.cells #[.int .u8 92] 5)) (some ⟨wr.heap.size, 0, none⟩) [92] := seg_one wr 92 (by unfold Byt; omega)
      obtain ⟨zs, hzs⟩ : ∃ zs, zs = 34 :: escQ (ts.take k) := ⟨_, rfl⟩
      rw [← hzs] at hB hk2 HOwn
      have hA1 := hB.out.alloc (.cells #[.int .u8 92] 5)
      have hbA : ∀ o : Obj, Below w.heap.size w (wr.alloc o) := fun o => B.alloc hz o
      have HbA := hide' hbA
      by_cases hq : c = 34 ∨ c = 92
      · rw [if_pos hq] at hst
        have HF : Hid (34 :: escQ (ts.take (k + 1)) = (zs ++ [92]) ++ [c]) := by show _ = _; rw [hst, hzs]; simp
        have hzl : zs.length = (34 :: escQ (ts.take k)).length := by rw [hzs]
        rw [← hzl]
        rcases hq with rfl | rfl
        · have HSc : Hid (∀ wx : World, Seg (wx.alloc (.cells #[.int .u8 34] 5)) (some ⟨wx.heap.size, 0, none⟩) [34]) := fun wx => seg_one wx 34 hcb
          clear hst hzs hbA hzl hcb
          go_wp2_with (first
            | (at_builtin; refine wpList_append_seg rfl (.tmp 24) (.tmp 25) (by rfl) w.heap.size (.slice ya zs.length yc) zs [92] (by rfl) hA1 _ 1 1 rfl (by rfl) hS92 (by simp) (by simp; omega) (by simp; omega) ?_; intro v1 w1 hv1 hg1; have hb1 := (HbA.out _).grown hg1 (by simp; omega) HOwn.out; have hc1 := HCell.out w1 hb1; have hS1 := HSc.out w1; have hA2 := hv1.alloc (.cells #[.int .u8 34] 5); have HOwn1 := hide' hv1.own; have hz1 := hb1.size; replace hb1 := hide' hb1; clear hv1 hg1)
            | (at_builtin; refine wpList_append_seg rfl (.tmp 27) (.tmp 32) (by rfl) w.heap.size v1 (zs ++ [92]) [34] (by rfl) hA2 _ 1 1 rfl (by rfl) hS1 (by simp) (by simp; omega) (by simp; omega) ?_; intro v2 w2 hv2 hg2; have hb2 := hide' ((hb1.out.alloc hz1 _).grown hg2 (by simp; omega) HOwn1.out); replace hv2 := hide' hv2; clear hg2))
          go_roundw
          case rel => exact ⟨k + 1, by omega, by go_num, by rw [HF.out]; exact hv2, hb2.out⟩
          case measure => simp [intOf]; omega
        · have HSc : Hid (∀ wx : World, Seg (wx.alloc (.cells #[.int .u8 92] 5)) (some ⟨wx.heap.size, 0, none⟩) [92]) := fun wx => seg_one wx 92 hcb
          clear hst hzs hbA hzl hcb
          go_wp2_with (first
            | (at_builtin; refine wpList_append_seg rfl (.tmp 24) (.tmp 25) (by rfl) w.heap.size (.slice ya zs.length yc) zs [92] (by rfl) hA1 _ 1 1 rfl (by rfl) hS92 (by simp) (by simp; omega) (by simp; omega) ?_; intro v1 w1 hv1 hg1; have hb1 := (HbA.out _).grown hg1 (by simp; omega) HOwn.out; have hc1 := HCell.out w1 hb1; have hS1 := HSc.out w1; have hA2 := hv1.alloc (.cells #[.int .u8 92] 5); have HOwn1 := hide' hv1.own; have hz1 := hb1.size; replace hb1 := hide' hb1; clear hv1 hg1)
            | (at_builtin; refine wpList_append_seg rfl (.tmp 27) (.tmp 32) (by rfl) w.heap.size v1 (zs ++ [92]) [92] (by rfl) hA2 _ 1 1 rfl (by rfl) hS1 (by simp) (by simp; omega) (by simp; omega) ?_; intro v2 w2 hv2 hg2; have hb2 := hide' ((hb1.out.alloc hz1 _).grown hg2 (by simp; omega) HOwn1.out); replace hv2 := hide' hv2; clear hg2))
          go_roundw
          case rel => exact ⟨k + 1, by omega, by go_num, by rw [HF.out]; exact hv2, hb2.out⟩
          case measure => simp [intOf]; omega
      · rw [if_neg hq] at hst
        have HF : Hid (34 :: escQ (ts.take (k + 1)) = zs ++ [c]) := by show _ = _; rw [hst, hzs]; simp
        have hzl : zs.length = (34 :: escQ (ts.take k)).length := by rw [hzs]
        rw [← hzl]
        have h34 : ¬ c = 34 := fun h => hq (.inl h)
        have h92 : ¬ c = 92 := fun h => hq (.inr h)
        have h34' : (c == 34) = false := by simpa using h34
        have h92' : (c == 92) = false := by simpa using h92
        have hS1 := seg_one wr c hcb
        have hA2 := hB.out.alloc (.cells #[.int .u8 c] 5)
        clear hst hzs hbA hzl hcb hS92 hA1 hq
        go_wp2_with (at_builtin; refine wpList_append_seg rfl (.tmp 27) (.tmp 32) (by rfl) w.heap.size (.slice ya zs.length yc) zs [c] (by rfl) hA2 _ 1 1 rfl (by rfl) hS1 (by simp) (by simp; omega) (by simp; omega) ?_; intro v2 w2 hv2 hg2; have hb2 := hide' ((HbA.out _).grown hg2 (by simp; omega) HOwn.out); replace hv2 := hide' hv2; clear hg2)
        go_roundw
        case rel => exact ⟨k + 1, by omega, by go_num, by rw [HF.out]; exact hv2, hb2.out⟩
        case measure => simp [intOf]; omega
    · have hkn : k = ts.length := by have := Hn.out; omega
      have hlt' : ¬ (k : Int) < (n : Int) := by omega
      have HF : Hid (quoT ts = (34 :: escQ (ts.take k)) ++ [34]) := by show _ = _; rw [hkn, List.take_length]; rfl
      have hS1 := seg_one wr 34 (by unfold Byt; omega)
      have hA2 := hB.out.alloc (.cells #[.int .u8 34] 5)
      have hbA : Hid (∀ o : Obj, Below w.heap.size w (wr.alloc o)) := fun o => B.alloc hz o
      generalize 34 :: escQ (ts.take k) = zs at *
      clear hkn
      go_wp2_with (at_builtin; refine wpList_append_seg rfl _ _ (by rfl) w.heap.size (.slice ya zs.length yc) zs [34] (by rfl) hA2 _ 1 1 rfl (by rfl) hS1 (by simp) (by simp; omega) (by simp; omega) ?_; intro v2 w2 hv2 hg2; have hb2 := hide' ((hbA.out _).grown hg2 (by simp; omega) HOwn.out); replace hv2 := hide' hv2; clear hg2)
      go_ret
      exact ⟨_, rfl, by rw [HF.out]; exact hv2.out, hb2.out⟩
end Go.Proofs.YtblnpjcmcjebkaaDoor
/-
  l2digits of the specification, at whatever number.
-/
namespace Go.Proofs.YtblnpjcmcjebkaaDoor
open Go.RowKit
set_option linter.unusedVariables false
set_option linter.unusedSimpArgs false

set_option maxHeartbeats 1600000 in
set_option maxRecDepth 100000 in
theorem l2digits_int (n : Int) (h0 : -1000000000000 ≤ n) (h1 : n ≤ 1000000000000) (w : World) :
    Calls Tryd.prog 28 #[.int .i64 n] w fun e w' => ∃ v, e = .returned v ∧ Bts w' w.heap.size v (intT n) ∧ Below w.heap.size w w' := by
  by_cases hn : n < 0
  · have HF : Hid (intT n = [45] ++ decI (-n).toNat) := by show _ = _; rw [intT, if_pos hn]; rfl
    have hcast : (((-n).toNat : Nat) : Int) = -n := by omega
    have HD : Hid (∀ wx, Calls Tryd.prog 28 #[.int .i64 (-n)] wx fun e w' => ∃ a c, e = .returned (.slice a (decI (-n).toNat).length c) ∧ Bts w' wx.heap.size (.slice a (decI (-n).toNat).length c) (decI (-n).toNat) ∧ Below wx.heap.size wx w' ∧ (a = none → c = 0)) := fun wx => by
      have h := l2digits_nat (-n).toNat (by omega) wx
      rw [hcast] at h
      refine h.mono ?_
      rintro e w' ⟨v, rfl, hB, hb⟩
      obtain ⟨a, c, rfl, _, _, _, _, k⟩ := hB.shape
      exact ⟨a, c, rfl, hB, hb, k⟩
    have hdl := decI_len (-n).toNat (by omega)
    have HO : Hid (∀ wx : World, Bts (wx.alloc (.cells #[.int .u8 45] 5)) wx.heap.size (.slice (some ⟨wx.heap.size, 0, none⟩) 1 1) [45]) := fun wx => bts_one wx 45 (by unfold Byt; omega)
    generalize decI (-n).toNat = ds at *
    have hw1 : wrap64 (-n) = -n := by unfold wrap64; omega
    clear hcast
    go_enter Tryd.func28, Tryd.ntmps28
    go_wp2_with fail
    refine (HD.out _).mono ?_
    rintro e w1 ⟨a, c, rfl, hB, b1, ka⟩
    have hO1 := (HO.out w).grow b1
    have hbw : Below w.heap.size w w1 := Below.on ((Below.refl _ _).alloc (Nat.le_refl _) _) b1
    have hz1 := hbw.size
    clear b1
    go_wp2_with (at_builtin; refine wpList_append_seg rfl _ _ (by rfl) w.heap.size _ [45] ds (by rfl) hO1 a ds.length c rfl (by rfl) hB.seg ka (by simp; omega) hz1 ?_; intro v2 w2 hv2 hg2; have hb2 := hide' (hbw.grown hg2 hz1 hO1.own); replace hv2 := hide' hv2; clear hg2)
    go_ret
    exact ⟨_, rfl, by rw [HF.out]; exact hv2.out, hb2.out⟩
  · have HF : Hid (intT n = decI n.toNat) := by show _ = _; rw [intT, if_neg hn]
    have hcast : ((n.toNat : Nat) : Int) = n := by omega
    have h := l2digits_nat n.toNat (by omega) w
    rw [hcast] at h
    rw [HF.out]
    exact h
end Go.Proofs.YtblnpjcmcjebkaaDoor
/-
  A row that is being appended to, each of its items in blocks of its own.
-/
namespace Go.Proofs.YtblnpjcmcjebkaaDoor
open Go.RowKit
set_option linter.unusedVariables false
set_option linter.unusedSimpArgs false

theorem flatten_at (s : Nat) : ∀ (cs : List (List Value)), (∀ c ∈ cs, c.length = s) → ∀ i, i < cs.length → ∀ j, j < s → cs.flatten[i * s + j]? = (cs.getD i [])[j]? := by
  intro cs
  induction cs with
  | nil => intro _ i hi; simp at hi
  | cons c cs ih =>
    intro hl i hi j hj
    have hc := hl c (by simp)
    rw [List.flatten_cons]
    cases i with
    | zero => rw [List.getElem?_append_left (by omega)]; simp
    | succ i =>
      have hge : s ≤ (i + 1) * s + j := by rw [Nat.add_mul, Nat.one_mul]; omega
      rw [List.getElem?_append_right (by omega), hc]
      have he : (i + 1) * s + j - s = i * s + j := by rw [Nat.add_mul, Nat.one_mul]; omega
      rw [he, ih (fun c' h => hl c' (by simp [h])) i (by simpa using hi) j hj]
      simp

/-- A row of n items that lies from block 'base' on; item i has the cells cs[i], and what it reaches lies in the blocks Bi[i]. -/
def RW (T : TypeId) (s : Nat) (It : World → Nat → List Value → List Nat → Prop) (w : World) (base : Nat) (x : Value) (n : Nat) (cs : List (List Value)) (Bi : List (List Nat)) : Prop :=
  cs.length = n ∧ Bi.length = n ∧ w.ownsRow base T s x n cs.flatten ∧ (∀ i, i < n → It w i (cs.getD i []) (Bi.getD i [])) ∧ (x.ownBlock.toList ++ Bi.flatten).Nodup ∧ ∀ b ∈ x.ownBlock.toList ++ Bi.flatten, base ≤ b ∧ b < w.heap.size

theorem RW.nil (T : TypeId) (s : Nat) (It : World → Nat → List Value → List Nat → Prop) (w : World) (base : Nat) : RW T s It w base (.slice none 0 0) 0 [] [] :=
  ⟨rfl, rfl, ⟨by simp, .inl ⟨rfl, rfl⟩⟩, fun i hi => by omega, by simp [Value.ownBlock], by simp [Value.ownBlock]⟩

theorem mem_flat {Bi : List (List Nat)} {i b : Nat} (h : b ∈ Bi.getD i []) : b ∈ Bi.flatten := by
  rw [List.getD_eq_getElem?_getD] at h
  cases hi : Bi[i]? with
  | none => rw [hi] at h; simp at h
  | some l => rw [hi] at h; exact List.mem_flatten.2 ⟨l, List.mem_of_getElem? hi, h⟩

/-- It stands where its blocks do. -/
theorem RW.agree {T : TypeId} {s : Nat} {It : World → Nat → List Value → List Nat → Prop} (hIt : ∀ w w' i c B, It w i c B → Agree (fun b => b ∈ B) w w' → It w' i c B) {w w' : World} {base : Nat} {x : Value} {n : Nat} {cs : List (List Value)} {Bi : List (List Nat)}
    (h : RW T s It w base x n cs Bi) (ha : Agree (fun b => b ∈ x.ownBlock.toList ++ Bi.flatten) w w') (hz : w.heap.size ≤ w'.heap.size) : RW T s It w' base x n cs Bi := by
  obtain ⟨h1, h2, h3, h4, h5, h6⟩ := h
  refine ⟨h1, h2, ⟨h3.1, ?_⟩, fun i hi => hIt _ _ _ _ _ (h4 i hi) fun b hb => ha b (by simp only [List.mem_append]; exact .inr (mem_flat hb)), h5, fun b hb => ⟨(h6 b hb).1, Nat.lt_of_lt_of_le (h6 b hb).2 hz⟩⟩
  rcases h3.2 with h0 | ⟨g, cap, cur, rfl, hb, hh, r⟩
  · exact .inl h0
  · exact .inr ⟨g, cap, cur, rfl, hb, (ha g (by simp [Value.ownBlock])).trans hh, r⟩

/-- One item more. -/
theorem RW.add {T : TypeId} {s : Nat} {It : World → Nat → List Value → List Nat → Prop} (hIt : ∀ w w' i c B, It w i c B → Agree (fun b => b ∈ B) w w' → It w' i c B) {w w2 w3 : World} {base : Nat} {x : Value} {n : Nat} {cs : List (List Value)} {Bi : List (List Nat)} {c : List Value} {Bv : List Nat} {g cap : Nat}
    (h : RW T s It w base x n cs Bi) (ha : ∀ b, b < w.heap.size → w2.heap[b]? = w.heap[b]?) (hz : w.heap.size ≤ w2.heap.size) (hc : It w2 n c Bv) (hBv : ∀ b ∈ Bv, w.heap.size ≤ b ∧ b < w2.heap.size) (hBn : Bv.Nodup) (hbase : base ≤ w.heap.size)
    (hown : w3.ownsRow base T s (.slice (some ⟨g, 0, none⟩) (n + 1) cap) (n + 1) (cs.flatten ++ c)) (hg : w2.grownBy w3 x.ownBlock) (hat : x.ownBlock = some g ∨ g = w2.heap.size) :
    RW T s It w3 base (.slice (some ⟨g, 0, none⟩) (n + 1) cap) (n + 1) (cs ++ [c]) (Bi ++ [Bv]) := by
  obtain ⟨h1, h2, h3, h4, h5, h6⟩ := h
  have hlt := hown.lt g rfl
  have hsz := hg.size
  have hfl : ∀ b ∈ Bi.flatten, base ≤ b ∧ b < w.heap.size := fun b hb => h6 b (by simp only [List.mem_append]; exact .inr hb)
  have hdis : ∀ b ∈ Bi.flatten, x.ownBlock ≠ some b := by
    intro b hb hx
    rw [hx] at h5
    simp only [Option.toList_some, List.nodup_append] at h5
    exact h5.2.2 b (by simp) b hb rfl
  have hxb : ∀ b, x.ownBlock = some b → b < w.heap.size := fun b hb => (h3.lt b hb).2
  refine ⟨by simp [h1], by simp [h2], by simpa using hown, fun i hi => ?_, ?_, ?_⟩
  · by_cases hin : i < n
    · have e1 : (cs ++ [c]).getD i [] = cs.getD i [] := by simp [List.getD_eq_getElem?_getD, List.getElem?_append_left (show i < cs.length by omega)]
      have e2 : (Bi ++ [Bv]).getD i [] = Bi.getD i [] := by simp [List.getD_eq_getElem?_getD, List.getElem?_append_left (show i < Bi.length by omega)]
      rw [e1, e2]
      refine hIt _ _ _ _ _ (h4 i hin) fun b hb => ?_
      have hm := mem_flat hb
      have hb' := hfl b hm
      exact (hg.block b (by omega) (fun e => hdis b hm e.symm)).trans (ha b hb'.2)
    · have hin' : i = n := by omega
      subst hin'
      have e1 : (cs ++ [c]).getD i [] = c := by rw [← h1]; simp [List.getD_eq_getElem?_getD]
      have e2 : (Bi ++ [Bv]).getD i [] = Bv := by rw [← h2]; simp [List.getD_eq_getElem?_getD]
      rw [e1, e2]
      refine hIt _ _ _ _ _ hc fun b hb => ?_
      have hb' := hBv b hb
      exact hg.block b hb'.2 (fun e => by have := hxb b e.symm; omega)
  · have hmid : (Bi.flatten ++ Bv).Nodup := by
      rw [List.nodup_append]
      refine ⟨(List.nodup_append.1 h5).2.1, hBn, fun a ha' b hb' => ?_⟩
      have := hfl a ha'
      have := hBv b hb'
      omega
    have hgn : g ∉ Bi.flatten ++ Bv := by
      intro hm
      rcases hat with hx | hx
      · rcases List.mem_append.1 hm with h' | h'
        · exact hdis g h' hx
        · have := hBv g h'
          have := hxb g hx
          omega
      · rcases List.mem_append.1 hm with h' | h'
        · have := hfl g h'; omega
        · have := hBv g h'; omega
    simp only [Value.ownBlock, Option.toList_some, List.flatten_append, List.flatten_singleton, List.singleton_append]
    exact List.nodup_cons.2 ⟨hgn, hmid⟩
  · intro b hb
    simp only [Value.ownBlock, Option.toList_some, List.flatten_append, List.flatten_singleton, List.singleton_append, List.mem_cons, List.mem_append] at hb
    rcases hb with rfl | hb | hb
    · exact hlt
    · have := hfl b hb; omega
    · have := hBv b hb; omega

/-- A value's five cells. -/
def enc5 (e : Value × Value × Value × Value × Value) : List Value := [e.1, e.2.1, e.2.2.1, e.2.2.2.1, e.2.2.2.2]

/-- Item i is the value l[i]. -/
def ItV (d : Nat) (l : List (Vl d)) (w : World) (i : Nat) (c : List Value) (B : List Nat) : Prop := ∃ e, c = enc5 e ∧ ∃ h : i < l.length, VOwn w d e l[i] B

/-- Item i is the text ks[i]. -/
def ItK (ks : List (List Int)) (w : World) (i : Nat) (c : List Value) (B : List Nat) : Prop := ∃ u, c = [u] ∧ TOwn w u (ks.getD i []) B

theorem ItV.agree (d : Nat) (l : List (Vl d)) : ∀ w w' i c B, ItV d l w i c B → Agree (fun b => b ∈ B) w w' → ItV d l w' i c B := by
  rintro w w' i c B ⟨e, rfl, h, hv⟩ ha
  exact ⟨e, rfl, h, VOwn.agree d hv ha⟩

theorem ItK.agree (ks : List (List Int)) : ∀ w w' i c B, ItK ks w i c B → Agree (fun b => b ∈ B) w w' → ItK ks w' i c B := by
  rintro w w' i c B ⟨u, rfl, hv⟩ ha
  exact ⟨u, rfl, hv.agree ha⟩

theorem getD_of_mem {α : Type} {cs : List α} {c z : α} (h : c ∈ cs) : ∃ i, i < cs.length ∧ cs.getD i z = c := by
  obtain ⟨i, hi, e⟩ := List.getElem_of_mem h
  exact ⟨i, hi, by simp [List.getD_eq_getElem?_getD, hi, e]⟩

/-- All of it: a list of values of the call's own. -/
theorem RW.lown {w : World} {base d : Nat} {x : Value} {l : List (Vl d)} {cs : List (List Value)} {Bi : List (List Nat)} (h : RW 31 5 (ItV d l) w base x l.length cs Bi) : LOwn w d x l (x.ownBlock.toList ++ Bi.flatten) := by
  obtain ⟨h1, h2, h3, h4, h5, h6⟩ := h
  have hl5 : ∀ c ∈ cs, c.length = 5 := by
    intro c hc
    obtain ⟨i, hi, e⟩ := getD_of_mem (z := []) hc
    obtain ⟨e', he, _⟩ := h4 i (by omega)
    rw [← e, he]
    rfl
  rcases h3.2 with ⟨rfl, h0⟩ | ⟨g, cap, cur, rfl, hb, hh, hn, hm, hs, ht⟩
  · have hl0 : l = [] := List.eq_nil_of_length_eq_zero h0
    have hb0 : Bi = [] := List.eq_nil_of_length_eq_zero (by omega)
    subst hl0 hb0
    exact .inl ⟨rfl, rfl, rfl⟩
  · refine .inr ⟨g, cap, cur, Bi, rfl, hh, hn, hm, hs, h2, fun i hi => ?_, rfl, h5⟩
    obtain ⟨e, he, _, hv⟩ := h4 i hi
    have hcell : ∀ j, j < 5 → cur[i * 5 + j]? = (enc5 e)[j]? := by
      intro j hj
      have hf := flatten_at 5 cs hl5 i (by omega) j hj
      rw [he, ← ht, List.getElem?_take_of_lt (by omega), Array.getElem?_toList] at hf
      exact hf
    exact ⟨e, ⟨hcell 0 (by omega), hcell 1 (by omega), hcell 2 (by omega), hcell 3 (by omega), hcell 4 (by omega)⟩, hv⟩

/-- All of it: a list of texts of the call's own. -/
theorem RW.kown {w : World} {base : Nat} {x : Value} {ks : List (List Int)} {cs : List (List Value)} {Bi : List (List Nat)} (h : RW 22 1 (ItK ks) w base x ks.length cs Bi) : KOwn w x ks (x.ownBlock.toList ++ Bi.flatten) := by
  obtain ⟨h1, h2, h3, h4, h5, h6⟩ := h
  have hl1 : ∀ c ∈ cs, c.length = 1 := by
    intro c hc
    obtain ⟨i, hi, e⟩ := getD_of_mem (z := []) hc
    obtain ⟨e', he, _⟩ := h4 i (by omega)
    rw [← e, he]
    rfl
  rcases h3.2 with ⟨rfl, h0⟩ | ⟨g, cap, cur, rfl, hb, hh, hn, hm, hs, ht⟩
  · have hl0 : ks = [] := List.eq_nil_of_length_eq_zero h0
    have hb0 : Bi = [] := List.eq_nil_of_length_eq_zero (by omega)
    subst hl0 hb0
    exact .inl ⟨rfl, rfl, rfl⟩
  · refine .inr ⟨g, cap, cur, Bi, rfl, hh, hn, hm, by omega, h2, fun i hi => ?_, rfl, h5⟩
    obtain ⟨u, he, hv⟩ := h4 i hi
    have hcell : cur[i]? = some u := by
      have hf := flatten_at 1 cs hl1 i (by omega) 0 (by omega)
      rw [he, ← ht, List.getElem?_take_of_lt (by omega), Array.getElem?_toList] at hf
      simpa using hf
    exact ⟨u, hcell, hv⟩
end Go.Proofs.YtblnpjcmcjebkaaDoor
/-
  A row of bytes of the call's own, as a text with its blocks.
-/
namespace Go.Proofs.YtblnpjcmcjebkaaDoor
open Go.RowKit
set_option linter.unusedVariables false
set_option linter.unusedSimpArgs false

theorem tOwn_of {w : World} {base : Nat} {v : Value} {xs : List Int} (h : Bts w base v xs) : ∃ B, TOwn w v xs B ∧ (∀ b ∈ B, base ≤ b ∧ b < w.heap.size) ∧ B.Nodup := by
  have hlt := h.2.lt
  rcases h.2.2 with ⟨rfl, h0⟩ | ⟨g, cap, cur, rfl, _⟩
  · exact ⟨[], ⟨h.free, .inl ⟨rfl, rfl⟩⟩, by simp, by simp⟩
  · exact ⟨[g], ⟨h.free, .inr ⟨g, cap, rfl, rfl⟩⟩, by intro b hb; simp at hb; subst hb; exact hlt b rfl, by simp⟩

end Go.Proofs.YtblnpjcmcjebkaaDoor
/-
  A string of bytes as cells; 'append(out, s...)' of a string.
-/
namespace Go.Proofs.YtblnpjcmcjebkaaDoor
open Go.RowKit
set_option linter.unusedVariables false

theorem strCells_of {xs : List Int} (h : ∀ x ∈ xs, Byt x) : Lib.strCells (strOf xs) = cellsOf xs := by
  show (u8s xs).map (fun b => Value.int .u8 (b.toNat : Int)) = _
  unfold u8s cellsOf
  rw [List.map_map]
  refine List.map_congr_left fun x hx => ?_
  have hb := h x hx
  unfold Byt at hb
  simp
  omega

theorem size_strOf (xs : List Int) : (strOf xs).size = xs.length := by simp [strOf, ByteArray.size]

/-- 'append(out, s...)', out nil or the call's own, s a string: what is owned grows by the bytes of s. -/
theorem wpList_append_text {w : World} {ops : Array Oper} {rest : List Oper} {o : Oper} {a : Act} {Q : Exit → Act → World → Prop} (hgd : o.guard = none) (s x : Operand) (t : TypeId)
    (ho : o.op = .call { callee := .builtin .append, args := #[s, x], argTypes := #[22, t] }) (ht : Tryd.prog.underlying t = some .string)
    (base : Nat) (v : Value) (xs ys : List Int) (hs : a.eval s = v) (hB : Bts w base v xs) (sx : ByteArray) (hsx : sx = strOf ys) (hy : ∀ y ∈ ys, Byt y) (hx : a.eval x = .string sx)
    (hlen : xs.length + ys.length ≤ 1099511627776) (hbase : base ≤ w.heap.size)
    (h : ∀ v' w', Bts w' base v' (xs ++ ys) → w.grownBy w' v.ownBlock → wpList Tryd.prog ops Q rest (a.put o.dst v') w') : wpList Tryd.prog ops Q (o :: rest) a w := by
  obtain ⟨i0, hi, hz0, hz1, hz2⟩ := info_parts info5
  subst hsx
  have hsz := size_strOf ys
  refine Lib.wpList_append_own_string w hgd s x 22 t ho base 5 i0 Tryd.underlying22 ht hi hz0 hz1 hz2 v xs.length (cellsOf xs) hs hB.2 (strOf ys) hx (by unfold maxLen; omega) (by omega) hbase ?_
  intro v' w' hown hg _
  refine h v' w' ⟨?_, ?_⟩ hg
  · intro z hz
    rcases List.mem_append.1 hz with h1 | h1
    · exact hB.1 z h1
    · exact hy z h1
  · rw [strCells_of hy, hsz, ← cellsOf_append] at hown
    rw [List.length_append]
    exact hown

end Go.Proofs.YtblnpjcmcjebkaaDoor
/-
  '[]byte(s)': a text of the call's own.
-/
namespace Go.Proofs.YtblnpjcmcjebkaaDoor
open Go.RowKit
set_option linter.unusedVariables false
set_option linter.unusedSimpArgs false

/-- '[]byte(s)': a text of the call's own. -/
theorem conv_back (xs : List Int) (hx : ∀ x ∈ xs, Byt x) (hl : xs.length ≤ 1048576) (w : World) : ∃ cap wB, (convert 9 22 (.string (strOf xs))).run Tryd.prog w = .ok (.slice (some ⟨w.heap.size, 0, none⟩) xs.length cap) wB ∧
    TOwn wB (.slice (some ⟨w.heap.size, 0, none⟩) xs.length cap) xs [w.heap.size] ∧ Below w.heap.size w wB ∧ wB.heap.size = w.heap.size + 1 := by
  have hsz := size_strOf xs
  have hsc := strCells_of hx
  have hrun := run_bytes_of_string (P := Tryd.prog) w 9 22 5 (strOf xs) Tryd.underlying9 Tryd.underlying22 Tryd.underlying5
  rw [hsz] at hrun
  have hge := grownCap_ge w xs.length 0 5
  have hle := grownCap_le_maxLen w xs.length 0 5 (by unfold maxLen; omega)
  generalize grownCap w xs.length 0 5 = cap at hrun hge hle
  have hrs : (bytesRow (strOf xs) cap).size = cap := by
    have h1 : (strOf xs).data.size = xs.length := hsz
    simp [bytesRow, h1, hsz]
    omega
  have hrt : (bytesRow (strOf xs) cap).toList.take xs.length = cellsOf xs := by
    rw [← hsc]
    unfold bytesRow Lib.strCells
    rw [Array.toList_append, Array.toList_map, List.take_append_of_le_length (by simp; exact Nat.le_of_eq hsz.symm)]
    rw [List.take_of_length_le (by simp; exact Nat.le_of_eq hsz)]
  rw [hrs] at hrun
  refine ⟨cap, _, hrun, ⟨⟨hx, by simp [cellsOf], .inr ⟨w.heap.size, cap, _, _, rfl, heap_alloc_new w.drew _, .inr (Nat.le_refl _), hge, hle, hrs, hrt⟩⟩, .inr ⟨_, _, rfl, rfl⟩⟩, ((Below.refl _ w).drew).alloc (Nat.le_refl _) _, by simp⟩
end Go.Proofs.YtblnpjcmcjebkaaDoor
/-
  A text that is read: its bytes, and that nil has no room.
-/
namespace Go.Proofs.YtblnpjcmcjebkaaDoor
open Go.RowKit
set_option linter.unusedVariables false

theorem TSeg.out {R : Nat → Prop} {w : World} {a : Option Addr} {n c : Nat} {xs : List Int} (h : TSeg R w (.slice a n c) xs) : Seg w a xs ∧ (a = none → c = 0) := by
  obtain ⟨a', c', h1, h2, h3, h4, h5, _⟩ := h
  simp only [Value.slice.injEq] at h1
  obtain ⟨rfl, _, rfl⟩ := h1
  exact ⟨h2, h5⟩
end Go.Proofs.YtblnpjcmcjebkaaDoor
/-
  l2say of the specification: a value without parts.
-/
namespace Go.Proofs.YtblnpjcmcjebkaaDoor
open Go.RowKit
set_option linter.unusedVariables false
set_option linter.unusedSimpArgs false

/-- What l2say has left. -/
def SayEnd (xs : List Int) (w : World) (e : Ending) (w' : World) : Prop := ∃ a c, e = .returned (.slice a xs.length c) ∧ Seg w' a xs ∧ (a = none → c = 0) ∧ (∀ x, a = some x → w.heap.size ≤ x.block ∧ x.block < w'.heap.size) ∧ Below w.heap.size w w'

theorem sayEnd_of {w w1 w' : World} {u : Value} {xs : List Int} (hB : Bts w' w1.heap.size u xs) (hz : w.heap.size ≤ w1.heap.size) (hb : Below w.heap.size w w') : SayEnd xs w (.returned u) w' := by
  obtain ⟨a, c, rfl, hs, _, _, hx, k⟩ := hB.shape
  exact ⟨a, c, rfl, hs, k, fun x e => ⟨by have := (hx x e).1; omega, (hx x e).2.1⟩, hb⟩

theorem push_modify (a : Array Obj) (x : Obj) (f : Obj → Obj) : (a.push x).modify a.size f = a.push (f x) := by
  ext i h1 h2
  · simp
  · rw [Array.getElem_modify]
    split
    · rename_i h; subst h; simp
    · rename_i h
      have : i < a.size := by simp at h1; omega
      simp [Array.getElem_push, this]

theorem conv_same (cs : Array Value) (n : Nat) (hn : cs.size = n) (w : World) : (convert 22 22 (.slice (some ⟨w.heap.size, 0, none⟩) n n)).run Tryd.prog (w.alloc (.cells cs 5)) = .ok (.slice (some ⟨w.heap.size, 0, none⟩) n n) (w.alloc (.cells cs 5 (n, n + 1))) := by
  have hsh : (w.alloc (.cells cs 5)).shape? w.heap.size = some (5, n) := by
    unfold World.shape?
    rw [heap_alloc_new w (.cells cs 5)]
    rw [← hn]
  have hfr : (w.alloc (.cells cs 5)).freeze ⟨w.heap.size, n, none⟩ 1 = w.alloc (.cells cs 5 (n, n + 1)) := by
    unfold World.freeze
    rw [if_neg (by decide)]
    show ({ w.alloc (.cells cs 5) with heap := (w.heap.push (.cells cs 5)).modify w.heap.size _ } : World) = _
    rw [push_modify]
    rfl
  simp [convert, run_underlying Tryd.underlying22, run_underlying Tryd.underlying5, markStringish, hsh, hfr]

/-- The cells of a text that was written out, marked as such. -/
theorem seg_lit (w : World) (xs : List Int) (h : ∀ x ∈ xs, Byt x) (fr : Nat × Nat) : Seg (w.alloc (.cells (cellsOf xs).toArray 5 fr)) (some ⟨w.heap.size, 0, none⟩) xs := by
  refine ⟨h, .inr ⟨w.heap.size, 0, rfl, fun i hi => ?_⟩⟩
  rw [cell_of_row _ w.heap.size _ _ _ fr (heap_alloc_new w _)]
  simp [cellsOf, List.getD_eq_getElem?_getD, hi]


set_option maxHeartbeats 1600000 in
set_option maxRecDepth 100000 in
theorem l2say_null (vn : Int) (vs : List Int) (a2 : Option Addr) (p2 : Nat) (a3 : Option Addr) (l3 p3 : Nat) (a4 : Option Addr) (l4 p4 : Nat) (w : World) :
    Calls Tryd.prog 17 #[.agg #[.int .i64 0, .int .i64 vn, .slice a2 vs.length p2, .slice a3 l3 p3, .slice a4 l4 p4]] w (SayEnd ([110, 117, 108, 108]) w) := by
  have hbA : Hid (∀ o : Obj, Below w.heap.size w (w.alloc o)) := fun o => (Below.refl _ _).alloc (Nat.le_refl _) o
  have hbB : Hid (∀ o o' : Obj, Below w.heap.size w ((w.alloc o).alloc o')) := fun o o' => ((Below.refl _ _).alloc (Nat.le_refl _) o).alloc (by simp) o'
  have hcv : ∀ o : Obj, (convert 22 22 (.slice (some ⟨w.heap.size + 1, 0, none⟩) 4 4)).run Tryd.prog ((w.alloc o).alloc (.cells #[.int .u8 110, .int .u8 117, .int .u8 108, .int .u8 108] 5)) = .ok (.slice (some ⟨w.heap.size + 1, 0, none⟩) 4 4) ((w.alloc o).alloc (.cells #[.int .u8 110, .int .u8 117, .int .u8 108, .int .u8 108] 5 (4, 4 + 1))) := fun o => by
    have h := conv_same #[.int .u8 110, .int .u8 117, .int .u8 108, .int .u8 108] 4 rfl (w.alloc o)
    simp only [World.size_alloc] at h
    exact h
  have HB : Hid (∀ o : Obj, Seg ((w.alloc o).alloc (.cells #[.int .u8 110, .int .u8 117, .int .u8 108, .int .u8 108] 5 (4, 4 + 1))) (some ⟨w.heap.size + 1, 0, none⟩) [110, 117, 108, 108]) := fun o => by
    have h := seg_lit (w.alloc o) [110, 117, 108, 108] (by simp [Byt]) (4, 4 + 1)
    simp only [World.size_alloc] at h
    exact h
  go_enter Tryd.func17, Tryd.ntmps17
  go_wp2
  go_ret
  exact ⟨_, _, rfl, HB.out _, by simp, fun x e => by simp at e; subst e; simp, hbB.out _ _⟩

set_option maxHeartbeats 1600000 in
set_option maxRecDepth 100000 in
theorem l2say_unknown (vn : Int) (vs : List Int) (a2 : Option Addr) (p2 : Nat) (a3 : Option Addr) (l3 p3 : Nat) (a4 : Option Addr) (l4 p4 : Nat) (w : World) :
    Calls Tryd.prog 17 #[.agg #[.int .i64 6, .int .i64 vn, .slice a2 vs.length p2, .slice a3 l3 p3, .slice a4 l4 p4]] w (SayEnd ([63]) w) := by
  have hbA : Hid (∀ o : Obj, Below w.heap.size w (w.alloc o)) := fun o => (Below.refl _ _).alloc (Nat.le_refl _) o
  have hbB : Hid (∀ o o' : Obj, Below w.heap.size w ((w.alloc o).alloc o')) := fun o o' => ((Below.refl _ _).alloc (Nat.le_refl _) o).alloc (by simp) o'
  have hcv : ∀ o : Obj, (convert 22 22 (.slice (some ⟨w.heap.size + 1, 0, none⟩) 1 1)).run Tryd.prog ((w.alloc o).alloc (.cells #[.int .u8 63] 5)) = .ok (.slice (some ⟨w.heap.size + 1, 0, none⟩) 1 1) ((w.alloc o).alloc (.cells #[.int .u8 63] 5 (1, 1 + 1))) := fun o => by
    have h := conv_same #[.int .u8 63] 1 rfl (w.alloc o)
    simp only [World.size_alloc] at h
    exact h
  have HB : Hid (∀ o : Obj, Seg ((w.alloc o).alloc (.cells #[.int .u8 63] 5 (1, 1 + 1))) (some ⟨w.heap.size + 1, 0, none⟩) [63]) := fun o => by
    have h := seg_lit (w.alloc o) [63] (by simp [Byt]) (1, 1 + 1)
    simp only [World.size_alloc] at h
    exact h
  go_enter Tryd.func17, Tryd.ntmps17
  go_wp2
  go_ret
  exact ⟨_, _, rfl, HB.out _, by simp, fun x e => by simp at e; subst e; simp, hbB.out _ _⟩

set_option maxHeartbeats 1600000 in
set_option maxRecDepth 100000 in
theorem l2say_false (vn : Int) (vs : List Int) (a2 : Option Addr) (p2 : Nat) (a3 : Option Addr) (l3 p3 : Nat) (a4 : Option Addr) (l4 p4 : Nat) (w : World) :
    Calls Tryd.prog 17 #[.agg #[.int .i64 1, .int .i64 0, .slice a2 vs.length p2, .slice a3 l3 p3, .slice a4 l4 p4]] w (SayEnd ([102, 97, 108, 115, 101]) w) := by
  have hbA : Hid (∀ o : Obj, Below w.heap.size w (w.alloc o)) := fun o => (Below.refl _ _).alloc (Nat.le_refl _) o
  have hbB : Hid (∀ o o' : Obj, Below w.heap.size w ((w.alloc o).alloc o')) := fun o o' => ((Below.refl _ _).alloc (Nat.le_refl _) o).alloc (by simp) o'
  have hsx : strOf [102, 97, 108, 115, 101] = { data := #[102, 97, 108, 115, 101] } := by rfl
  obtain ⟨cap, wB, hconv, hT, hbb, hzB⟩ := conv_back [102, 97, 108, 115, 101] (by simp [Byt]) (by simp) ((w.alloc (.cells #[.int .i64 1, .int .i64 0, .slice a2 vs.length p2, .slice a3 l3 p3, .slice a4 l4 p4] 31)).alloc (.cells #[.string { data := #[102, 97, 108, 115, 101] }, .string { data := #[116, 114, 117, 101] }] 9))
  rw [hsx] at hconv
  have hS := hT.seg.out
  simp only [World.size_alloc] at hS hconv
  have HB := hide' (Below.on (hbB.out _ _) hbb)
  have HS := hide' hS
  have Hz := hide' hzB
  clear hT hbb hS hzB hsx
  go_enter Tryd.func17, Tryd.ntmps17
  go_wp2
  go_ret
  exact ⟨_, _, rfl, HS.out.1, by simp, fun x e => by have := Hz.out; simp at e this; subst e; simp; omega, HB.out⟩

set_option maxHeartbeats 1600000 in
set_option maxRecDepth 100000 in
theorem l2say_true (vn : Int) (vs : List Int) (a2 : Option Addr) (p2 : Nat) (a3 : Option Addr) (l3 p3 : Nat) (a4 : Option Addr) (l4 p4 : Nat) (w : World) :
    Calls Tryd.prog 17 #[.agg #[.int .i64 1, .int .i64 1, .slice a2 vs.length p2, .slice a3 l3 p3, .slice a4 l4 p4]] w (SayEnd ([116, 114, 117, 101]) w) := by
  have hbA : Hid (∀ o : Obj, Below w.heap.size w (w.alloc o)) := fun o => (Below.refl _ _).alloc (Nat.le_refl _) o
  have hbB : Hid (∀ o o' : Obj, Below w.heap.size w ((w.alloc o).alloc o')) := fun o o' => ((Below.refl _ _).alloc (Nat.le_refl _) o).alloc (by simp) o'
  have hsx : strOf [116, 114, 117, 101] = { data := #[116, 114, 117, 101] } := by rfl
  obtain ⟨cap, wB, hconv, hT, hbb, hzB⟩ := conv_back [116, 114, 117, 101] (by simp [Byt]) (by simp) ((w.alloc (.cells #[.int .i64 1, .int .i64 1, .slice a2 vs.length p2, .slice a3 l3 p3, .slice a4 l4 p4] 31)).alloc (.cells #[.string { data := #[102, 97, 108, 115, 101] }, .string { data := #[116, 114, 117, 101] }] 9))
  rw [hsx] at hconv
  have hS := hT.seg.out
  simp only [World.size_alloc] at hS hconv
  have HB := hide' (Below.on (hbB.out _ _) hbb)
  have HS := hide' hS
  have Hz := hide' hzB
  clear hT hbb hS hzB hsx
  go_enter Tryd.func17, Tryd.ntmps17
  go_wp2
  go_ret
  exact ⟨_, _, rfl, HS.out.1, by simp, fun x e => by have := Hz.out; simp at e this; subst e; simp; omega, HB.out⟩

set_option maxHeartbeats 1600000 in
set_option maxRecDepth 100000 in
theorem l2say_int (vn : Int) (vs : List Int) (a2 : Option Addr) (p2 : Nat) (a3 : Option Addr) (l3 p3 : Nat) (a4 : Option Addr) (l4 p4 : Nat) (w : World) (h0 : -1000000000000 ≤ vn) (h1 : vn ≤ 1000000000000) :
    Calls Tryd.prog 17 #[.agg #[.int .i64 2, .int .i64 vn, .slice a2 vs.length p2, .slice a3 l3 p3, .slice a4 l4 p4]] w (SayEnd (intT vn) w) := by
  have hbA : Hid (∀ o : Obj, Below w.heap.size w (w.alloc o)) := fun o => (Below.refl _ _).alloc (Nat.le_refl _) o
  have hbB : Hid (∀ o o' : Obj, Below w.heap.size w ((w.alloc o).alloc o')) := fun o o' => ((Below.refl _ _).alloc (Nat.le_refl _) o).alloc (by simp) o'
  have HC : Hid (∀ wx, Calls Tryd.prog 28 #[.int .i64 vn] wx fun e w' => ∃ v, e = .returned v ∧ Bts w' wx.heap.size v (intT vn) ∧ Below wx.heap.size wx w') := fun wx => l2digits_int vn h0 h1 wx
  go_enter Tryd.func17, Tryd.ntmps17
  go_wp2_with fail
  refine (HC.out _).mono ?_
  rintro e w1 ⟨u, rfl, hB, b1⟩
  have HB := hide' hB
  have B1 := Below.on (hbA.out _) b1
  clear hB b1
  go_wp2
  go_ret
  exact sayEnd_of HB.out (by simp) B1

set_option maxHeartbeats 1600000 in
set_option maxRecDepth 100000 in
theorem l2say_text (vn : Int) (vs : List Int) (a2 : Option Addr) (p2 : Nat) (a3 : Option Addr) (l3 p3 : Nat) (a4 : Option Addr) (l4 p4 : Nat) (w : World) (hs : Seg w a2 vs) (hl : vs.length ≤ 1000) :
    Calls Tryd.prog 17 #[.agg #[.int .i64 3, .int .i64 vn, .slice a2 vs.length p2, .slice a3 l3 p3, .slice a4 l4 p4]] w (SayEnd (quoT vs) w) := by
  have hbA : Hid (∀ o : Obj, Below w.heap.size w (w.alloc o)) := fun o => (Below.refl _ _).alloc (Nat.le_refl _) o
  have hbB : Hid (∀ o o' : Obj, Below w.heap.size w ((w.alloc o).alloc o')) := fun o o' => ((Below.refl _ _).alloc (Nat.le_refl _) o).alloc (by simp) o'
  have HC : Hid (∀ o : Obj, Calls Tryd.prog 29 #[.slice a2 vs.length p2] (w.alloc o) fun e w' => ∃ v, e = .returned v ∧ Bts w' (w.alloc o).heap.size v (quoT vs) ∧ Below (w.alloc o).heap.size (w.alloc o) w') := fun o => l2quoted_any a2 p2 vs (w.alloc o) (hs.grow (hbA.out o)) hl
  clear hs
  go_enter Tryd.func17, Tryd.ntmps17
  go_wp2_with fail
  refine (HC.out _).mono ?_
  rintro e w1 ⟨u, rfl, hB, b1⟩
  have HB := hide' hB
  have B1 := Below.on (hbA.out _) b1
  clear hB b1
  go_wp2
  go_ret
  exact sayEnd_of HB.out (by simp) B1
end Go.Proofs.YtblnpjcmcjebkaaDoor
/-
  Cells of a list of values, of a list of texts: the same behind later calls.
-/
namespace Go.Proofs.YtblnpjcmcjebkaaDoor
open Go.RowKit
set_option linter.unusedVariables false
set_option linter.unusedSimpArgs false

theorem KSeg.none_at {R : Nat → Prop} {w : World} {b off : Nat} {n cap : Nat} {ks : List (List Int)} (h : KSeg R w (.slice (some ⟨b, off, none⟩) n cap) ks) {k : Nat} (hk : k < ks.length) {ta : Option Addr} {l tc : Nat} (hq : w.cell? ⟨b, off + k, none⟩ = some (.slice ta l tc)) : ta = none → tc = 0 := by
  obtain ⟨a', cap', h1, h2, h3, h4, h5⟩ := h
  simp only [Value.slice.injEq] at h1
  obtain ⟨rfl, _, _⟩ := h1
  rcases h5 with h0 | ⟨b, off, e, _, hc⟩
  · subst h0; simp at hk
  · simp only [Option.some.injEq, Addr.mk.injEq] at e
    obtain ⟨rfl, rfl, _⟩ := e
    obtain ⟨u, hu, a2, c2, rfl, s2, l2, m2, k2, _⟩ := hc k hk
    rw [hq] at hu
    simp at hu
    obtain ⟨rfl, _, rfl⟩ := hu
    exact k2

theorem five_same {N : Nat} {w wr wx : World} {d : Nat} {b off n cap : Nat} {l : List (Vl d)} {c : Value × Value × Value × Value × Value} (h : LSeg (fun b => b < N) w d (.slice (some ⟨b, off, none⟩) n cap) l) (hx : Below w.heap.size w wx) (hr : Below w.heap.size w wr) (hN : N ≤ w.heap.size) {k : Nat} (hk : k < l.length) (h5 : Five wr b (off + k * 5) c) : Five wx b (off + k * 5) c := by
  obtain ⟨a', cap', h1, h2, h3, h4, h5'⟩ := h
  simp only [Value.slice.injEq] at h1
  obtain ⟨rfl, _, _⟩ := h1
  rcases h5' with h0 | ⟨b', off', e, hR, hc⟩
  · subst h0; simp at hk
  · simp only [Option.some.injEq, Addr.mk.injEq] at e
    obtain ⟨rfl, rfl, _⟩ := e
    have hbr : wr.heap[b]? = w.heap[b]? := hr.block b (by omega)
    have hbx : wx.heap[b]? = w.heap[b]? := hx.block b (by omega)
    have hcc : ∀ j, wx.cell? ⟨b, j, none⟩ = wr.cell? ⟨b, j, none⟩ := fun j => World.cell?_of_block (hbx.trans hbr.symm)
    exact ⟨(hcc _).trans h5.1, (hcc _).trans h5.2.1, (hcc _).trans h5.2.2.1, (hcc _).trans h5.2.2.2.1, (hcc _).trans h5.2.2.2.2⟩

end Go.Proofs.YtblnpjcmcjebkaaDoor
