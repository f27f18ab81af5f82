/-
  Texts that a law leans on, one behind the other; no statement is proved here.
-/
import Derived.Test.YthnkedbmfhokiaaGreatDoorPk47
import Derived.Test.YthnkedbmfhokiaaGreatDoorPk3
import Derived.Test.YthnkedbmfhokiaaGreatDoorPk5
import Derived.Test.YthnkedbmfhokiaaGreatDoorPk13
import Derived.Deep.AppendLies
import Derived.Deep.RegionLaw
import Derived.Deep.CutRange
/-
  l2set of the specification: the map with a value under a key, whatever map whose keys ascend it is handed; no statement is proved here.
-/
namespace Go.Proofs.YthnkedbmfhokiaaGreatDoor
open Go.RowKit
set_option linter.unusedVariables false
set_option linter.unusedSimpArgs false

theorem four_boxes (w : World) (o1 o2 o3 o4 : Obj) : ((((w.alloc o1).alloc o2).alloc o3).alloc o4).heap[w.heap.size]? = some o1 ∧ ((((w.alloc o1).alloc o2).alloc o3).alloc o4).heap[w.heap.size + 1]? = some o2 ∧ ((((w.alloc o1).alloc o2).alloc o3).alloc o4).heap[w.heap.size + 1 + 1]? = some o3 ∧ ((((w.alloc o1).alloc o2).alloc o3).alloc o4).heap[w.heap.size + 1 + 1 + 1]? = some o4 ∧ ((((w.alloc o1).alloc o2).alloc o3).alloc o4).heap.size = w.heap.size + 4 ∧ Below w.heap.size w ((((w.alloc o1).alloc o2).alloc o3).alloc o4) := by
  have n1 := (MapKept.heap_alloc w o1).1
  have n2 := (MapKept.heap_alloc (w.alloc o1) o2).1
  have n3 := (MapKept.heap_alloc ((w.alloc o1).alloc o2) o3).1
  have n4 := (MapKept.heap_alloc (((w.alloc o1).alloc o2).alloc o3) o4).1
  simp only [World.size_alloc] at n2 n3 n4
  have k2 : ∀ b, b < w.heap.size + 1 → ((w.alloc o1).alloc o2).heap[b]? = (w.alloc o1).heap[b]? := fun b hb => Below.heap_alloc _ _ _ (by simpa using hb)
  have k3 : ∀ b, b < w.heap.size + 2 → (((w.alloc o1).alloc o2).alloc o3).heap[b]? = ((w.alloc o1).alloc o2).heap[b]? := fun b hb => Below.heap_alloc _ _ _ (by simp; omega)
  have k4 : ∀ b, b < w.heap.size + 3 → ((((w.alloc o1).alloc o2).alloc o3).alloc o4).heap[b]? = (((w.alloc o1).alloc o2).alloc o3).heap[b]? := fun b hb => Below.heap_alloc _ _ _ (by simp; omega)
  exact ⟨(k4 _ (by omega)).trans ((k3 _ (by omega)).trans ((k2 _ (by omega)).trans n1)), (k4 _ (by omega)).trans ((k3 _ (by omega)).trans n2), (k4 _ (by omega)).trans n3, n4, by simp, ((((Below.refl _ _).alloc (Nat.le_refl _) o1).alloc (by simp) o2).alloc (by simp; omega) o3).alloc (by simp; omega) o4⟩

set_option maxHeartbeats 12800000 in
set_option maxRecDepth 100000 in
theorem l2set_R (R : Nat → Prop) (d : Nat) (ck cn : Int) (a2 : Option Addr) (l2 p2 : Nat) (a3 : Option Addr) (l3 p3 : Nat) (a4 : Option Addr) (l4 p4 : Nat) (v : Vl (d + 1)) (xk xn : Int) (b2 : Option Addr) (m2 q2 : Nat) (b3 : Option Addr) (m3 q3 : Nat) (b4 : Option Addr) (m4 q4 : Nat) (x : Vl d) (ka : Option Addr) (kc : Nat) (key : List Int) (w : World)
    (hv : VSeg R w (d + 1) (.int .i64 ck, .int .i64 cn, .slice a2 l2 p2, .slice a3 l3 p3, .slice a4 l4 p4) v) (hT : TSeg R w (.slice ka key.length kc) key) (hx : VSeg R w d (.int .i64 xk, .int .i64 xn, .slice b2 m2 q2, .slice b3 m3 q3, .slice b4 m4 q4) x)
    (hup : ∀ i, i < v.2.2.2.1.length → upB v.2.2.2.1 i = true) (hbt : ∀ i, i < v.2.2.2.1.length → ∀ y ∈ v.2.2.2.1.getD i [], Byt y) (hKL : v.2.2.2.1.length = v.2.2.2.2.length) (hn : v.2.2.2.1.length ≤ 1000) (hR : ∀ b, R b → b < w.heap.size) :
    Calls Tryz.prog 53 #[.agg #[.int .i64 ck, .int .i64 cn, .slice a2 l2 p2, .slice a3 l3 p3, .slice a4 l4 p4], .slice ka key.length kc, .agg #[.int .i64 xk, .int .i64 xn, .slice b2 m2 q2, .slice b3 m3 q3, .slice b4 m4 q4]] w fun e w' => ∃ u0 u1 u2 u3 u4, e = .returned (.agg #[u0, u1, u2, u3, u4]) ∧ VSeg (fun b => R b ∨ (w.heap.size ≤ b ∧ b < w'.heap.size)) w' (d + 1) (u0, u1, u2, u3, u4) (setV d v key x) ∧ Below w.heap.size w w' := by
  have HRl := hide' hR
  clear hR
  obtain ⟨vk, vn, vs, vK, vL⟩ := v
  obtain ⟨_, _, _, hK, hL⟩ := (VSeg_succ _ _ _ _ _).1 hv
  simp only at hK hL hup hbt hKL hn
  obtain rfl : l3 = vK.length := by obtain ⟨a, c, e, _⟩ := hK; simp at e; exact e.2.1
  obtain rfl : l4 = vL.length := by obtain ⟨a, c, e, _⟩ := hL; simp at e; exact e.2.1
  obtain ⟨iT, hiT, hy0, hy1, hy2⟩ := info_parts infoT
  obtain ⟨iV, hiV, hz0, hz1, hz2⟩ := info_parts info_valueT
  have hkb : key.length ≤ maxLen := by obtain ⟨a, c, e, _, h1, h2, _⟩ := hT; omega
  have hsg : Seg w ka key := by obtain ⟨a, c, e, h, _⟩ := hT; simp at e; rw [e.1]; exact h
  have HRd : Hid (∀ k m pb (hk : k < vK.length), StK vK key pb m k → _) := fun k m pb hk h => set_round (x := x) hup hbt hsg.1 hKL hk h
  have HLs : Hid (∀ m pb, StK vK key pb m vK.length → _) := fun m pb h => set_last (vL := vL) (x := x) hKL h
  have H4 := hide' (four_boxes w (.cells #[.int .i64 ck, .int .i64 cn, .slice a2 l2 p2, .slice a3 vK.length p3, .slice a4 vL.length p4] 26) (.cells #[.int .i64 xk, .int .i64 xn, .slice b2 m2 q2, .slice b3 m3 q3, .slice b4 m4 q4] 26) (.cells #[.int .i64 0, .int .i64 0, .slice none 0 0, .slice none 0 0, .slice none 0 0] 26) (.cells #[.int .i64 5, .int .i64 0, .slice none 0 0, .slice none 0 0, .slice none 0 0] 26))
  have HK := hide' hK
  have HL := hide' hL
  have HT := hide' hT
  have HX := hide' hx
  have HSg := hide' hsg
  show Calls Tryz.prog 53 _ w fun e w' => ∃ u0 u1 u2 u3 u4, e = .returned (.agg #[u0, u1, u2, u3, u4]) ∧ VSeg (fun b => R b ∨ (w.heap.size ≤ b ∧ b < w'.heap.size)) w' (d + 1) (u0, u1, u2, u3, u4) ((5 : Int), (0 : Int), ([] : List Int), setK vK key, putL vK key vL x) ∧ Below w.heap.size w w'
  generalize hF : setK vK key = F at *
  generalize hFL : putL vK key vL x = FL at *
  have HKL := hide' hKL
  clear hv hK hL hT hx hup hbt hsg hF hFL hKL
  go_enter Tryz.func53, Tryz.ntmps53
  go_wp2_with fail
  obtain ⟨hP, hX, hR, hO, hsz, hB1⟩ := H4.out
  generalize ((((w.alloc (.cells #[.int .i64 ck, .int .i64 cn, .slice a2 l2 p2, .slice a3 vK.length p3, .slice a4 vL.length p4] 26)).alloc (.cells #[.int .i64 xk, .int .i64 xn, .slice b2 m2 q2, .slice b3 m3 q3, .slice b4 m4 q4] 26)).alloc (.cells #[.int .i64 0, .int .i64 0, .slice none 0 0, .slice none 0 0, .slice none 0 0] 26)).alloc (.cells #[.int .i64 5, .int .i64 0, .slice none 0 0, .slice none 0 0, .slice none 0 0] 26)) = w1 at *
  have HP := hide' hP
  have HXb := hide' hX
  have HR := hide' hR
  have HB1 := hide' hB1
  have HS0 := hide' (six_start (R := R) (w := w) (F := F) (FL := FL) (x0 := x) hO)
  clear H4 hP hX hR hO hB1
  go_loopw [8, 9] (fun put i wr => ∃ (k m : Nat) (pb : Bool), k ≤ vK.length ∧ i = .int .i64 k ∧ put = .bool pb ∧ m ≤ k + 1 ∧ StK vK key pb m k ∧ ∃ xK xL us fs, Hid (SIx R w w1 (w.heap.size + 1 + 1 + 1) d F FL x m m wr xK xL us fs)) (fun _ i _ => vK.length - (intOf i).toNat)
  case atStart => exact ⟨0, 0, false, Nat.zero_le _, rfl, rfl, by omega, .inl ⟨rfl, Nat.zero_le _, rfl⟩, _, _, _, _, HS0⟩
  case round =>
    obtain ⟨k, m, pb, hk, rfl, rfl, hmk, hSt, xK, xL, us, fs, hI⟩ := hrel
    have hg := hI.out.2.1
    have hzr := hg.size
    have hPr := (hg.block w.heap.size (by omega) (by simp; omega)).trans HP.out
    have hXr := (hg.block (w.heap.size + 1) (by omega) (by simp)).trans HXb.out
    have hRr := (hg.block (w.heap.size + 1 + 1) (by omega) (by simp)).trans HR.out
    have hBr : Below w.heap.size w wr := HB1.out.grown hg (by omega) (by intro j hj; simp at hj; omega)
    obtain ⟨pK, cK, rfl⟩ := row_shape hI.out.2.2.1
    obtain ⟨pL, cL, rfl⟩ := row_shape hI.out.2.2.2.1
    obtain ⟨p0, p1, p2', p3', p4', _⟩ := row5 hPr
    obtain ⟨o0, o1, o2, o3, o4, of⟩ := row5 hI.out.1
    by_cases hlt : k < vK.length
    · have hne : vK ≠ [] := by intro h; rw [h] at hlt; simp at hlt
      have hneL : vL ≠ [] := by intro h; have := HKL.out; rw [h] at this; simp at this; exact hne this
      obtain ⟨-, -, bK, oK, us0, rfl, hbK, hus0, hliK, -, hTs⟩ := HK.out.lie hne
      obtain ⟨-, -, bL, oL, fs0, rfl, hbL, hfs0, hliL, -, hVs⟩ := HL.out.lie hneL
      have hbK' : bK < w.heap.size := HRl.out _ hbK
      have hbL' : bL < w.heap.size := HRl.out _ hbL
      have hku : k < us0.length := by omega
      have hkf : k < fs0.length := by have := HKL.out; omega
      have hTk := hTs k hku
      have hVk := hVs k hkf (by omega)
      have hcK : wr.cell? ⟨bK, oK + k, none⟩ = some us0[k] := (World.cell?_of_block (hBr.block bK hbK')).trans (hliK k _ (List.getElem?_eq_getElem hku))
      obtain ⟨ak, akc, hak, hakS, _⟩ := hTk
      have hfv := five_lie hliL k hkf
      generalize hek : fs0[k] = ek at *
      obtain ⟨f0, f1, f2, f3, f4⟩ := ek
      obtain ⟨zk, zn, g2, n2, r2, g3, n3, r3, g4, n4, r4, rfl, rfl, rfl, rfl, rfl⟩ := VSeg.form d hVk
      have HF5 : Hid (∀ wx, Below w.heap.size w wx → wx.cell? ⟨bL, oL + k * 5, none⟩ = some (.int .i64 zk) ∧ wx.cell? ⟨bL, oL + k * 5 + 1, none⟩ = some (.int .i64 zn) ∧ wx.cell? ⟨bL, oL + k * 5 + 2, none⟩ = some (.slice g2 n2 r2) ∧ wx.cell? ⟨bL, oL + k * 5 + 3, none⟩ = some (.slice g3 n3 r3) ∧ wx.cell? ⟨bL, oL + k * 5 + 4, none⟩ = some (.slice g4 n4 r4)) := fun wx hb => hfv.agree (R := fun b => b < w.heap.size) (agree_below hb) hbL'
      rw [hak] at hcK
      have HCK : Hid (∀ wx, Below w.heap.size w wx → wx.cell? ⟨bK, oK + k, none⟩ = some (.slice ak (vK.getD k []).length akc)) := fun wx hb => (World.cell?_of_block (hb.block bK hbK')).trans (by rw [← hak]; exact hliK k _ (List.getElem?_eq_getElem hku))
      have HTk : Hid (TSeg R w (.slice ak (vK.getD k []).length akc) (vK.getD k [])) := by rw [← hak]; exact hTs k hku
      have HVk : Hid (VSeg R w d (.int .i64 zk, .int .i64 zn, .slice g2 n2 r2, .slice g3 n3 r3, .slice g4 n4 r4) (vL.getD k x)) := by
        have e : vL.getD k x = vL[k]'(by have := HKL.out; omega) := by have := HKL.out; simp [List.getD_eq_getElem?_getD, (show k < vL.length by omega)]
        rw [e]
        exact hVk
      have HBy := hide' (l2bytes_any ka ak kc akc key (vK.getD k []) wr (HSg.out.below hBr HSg.out.lt) (hakS.below hBr hakS.lt))
      have hlt' : (k : Int) < (vK.length : Int) := by omega
      have hltL : (k : Int) < (vL.length : Int) := by have := HKL.out; omega
      have hk0 : (0 : Int) ≤ (k : Int) := Int.natCast_nonneg _
      have hcs := HRd.out k m pb hlt hSt
      have Hm2 : Hid (pb = false → m = k) := fun h => by rcases hSt with ⟨_, _, h2⟩ | ⟨h1, _⟩; exact h2; rw [h] at h1; simp at h1
      generalize hkk : vK.getD k [] = kk at *
      generalize hvk : vL.getD k x = vv at *
      generalize bytesC key kk = cI at *
      have HI := hide' hI.out
      have HBr := hide' hBr
      have HXr := hide' hXr
      generalize hkn : kk.length = kn at *
      clear hTs hVs hliK hliL hVk hakS hak hek hSt HRd hg hI hBr hXr hRr hfv hkk hvk
      go_wp2_with fail
      refine HBy.out.mono ?_
      rintro e wB ⟨rfl, e1⟩
      obtain rfl := e1
      clear HBy
      rcases hcs with ⟨rfl, rfl, hFm, hFLm, hSt'⟩ | ⟨rfl, rfl, hFm, hFLm, hSt'⟩ | ⟨rfl, hFm, hFLm, ⟨rfl, hSt'⟩ | ⟨rfl, hFm2, hFLm2, hSt'⟩⟩
      · go_wp2_with fail
        obtain ⟨_, _, _, o3a, _, _⟩ := box_later HI.out.1
        go_cut [10] from 12 to 65 (fun s10 wx => s10 = .int .i64 1 ∧ ∃ pa ca ua, Hid (SIx R w w1 (w.heap.size + 1 + 1 + 1) d F FL x (m + 1) m wx (.slice pa (m + 1) ca) (.slice pL m cL) ua fs))
        case first =>
          go_region_law (refine step_append_lies _ (by rfl) _ _ _ (by rfl) w1.heap.size 22 iT (.slice none 0 0) 1 24 Tryz.underlying23 hiT hy0 hy1 hy2 rfl (by decide) (.slice pK m cK) m us (by rfl) (by first | exact HI.out.2.2.1.alloc _ | exact (HI.out.2.2.1.alloc _).drew | exact ((HI.out.2.2.1.alloc _).drew).drew) ⟨wr.heap.size, 0, none⟩ 1 1 [.slice ak kn akc] (by rfl) (by rfl) (World.news_of_block (cs := #[.slice ak kn akc]) (t := 22) (fr := (0, 0)) (heap_alloc_new wr _)) (by simp [Value.oneCell']) (by omega) (by unfold maxLen; omega) (by omega) (by simp; omega) (wr.heap.size + 1) (by simp) ?_; intro g7 cp7 w7 hown7 hg7 hat7 hlt7; obtain ⟨hV7, hf7, hS7⟩ := six_k HI.out (by omega) (by first | exact (Below.refl _ _).alloc (Nat.le_refl _) _ | exact ((Below.refl _ _).alloc (Nat.le_refl _) _).drew | exact (((Below.refl _ _).alloc (Nat.le_refl _) _).drew).drew) hown7 hg7 (by simpa using hat7) (by rw [hFm]; exact HTk.out); obtain ⟨_, _, _, ck7, _, _⟩ := row5 hV7; replace hS7 := hide' hS7; clear hown7 hg7 hat7 hlt7 hV7)
          all_goals (go_wp2_with fail; go_meet; exact ⟨rfl, _, _, _, hS7⟩)
        case rest =>
        obtain ⟨rfl, pa, ca, ua, hS7⟩ := hcut
        have hz7 := hS7.out.2.1.size
        have hB7 : Below w.heap.size w wc := HB1.out.grown hS7.out.2.1 (by omega) (by intro j hj; simp at hj; omega)
        obtain ⟨_, _, _, _, p47, _⟩ := row5 ((hS7.out.2.1.block w.heap.size (by omega) (by simp; omega)).trans HP.out)
        obtain ⟨_, _, _, _, o47, _⟩ := row5 hS7.out.1
        obtain ⟨_, _, _, _, o4a, _⟩ := box_later hS7.out.1
        obtain ⟨t0, t1, t2, t3, t4⟩ := HF5.out _ hB7
        clear hB7 o3a
        go_wp2_with fail
        go_region_law (refine step_append_lies _ (by rfl) _ _ _ (by rfl) w1.heap.size 26 iV _ 5 88 Tryz.underlying24 hiV hz0 hz1 hz2 rfl (by decide) (.slice pL m cL) m ((fs.map enc5).flatten) (by rfl) (by first | exact hS7.out.2.2.2.1.alloc _ | exact (hS7.out.2.2.2.1.alloc _).drew | exact ((hS7.out.2.2.2.1.alloc _).drew).drew) ⟨wc.heap.size, 0, none⟩ 1 1 [.int .i64 zk, .int .i64 zn, .slice g2 n2 r2, .slice g3 n3 r3, .slice g4 n4 r4] (by rfl) (by rfl) (World.news_of_block (cs := #[.int .i64 zk, .int .i64 zn, .slice g2 n2 r2, .slice g3 n3 r3, .slice g4 n4 r4]) (t := 26) (fr := (0, 0)) (heap_alloc_new wc _)) (by simp [Value.oneCell']) (by omega) (by unfold maxLen; omega) (by omega) (by simp; omega) (wc.heap.size + 1) (by simp) ?_; intro g8 cp8 w8 hown8 hg8 hat8 hlt8; obtain ⟨hV8, hf8, hS8⟩ := six_l (e := (.int .i64 zk, .int .i64 zn, .slice g2 n2 r2, .slice g3 n3 r3, .slice g4 n4 r4)) hS7.out (by omega) (by first | exact (Below.refl _ _).alloc (Nat.le_refl _) _ | exact ((Below.refl _ _).alloc (Nat.le_refl _) _).drew | exact (((Below.refl _ _).alloc (Nat.le_refl _) _).drew).drew) hown8 hg8 (by simpa using hat8) (by rw [hFLm]; exact HVk.out); obtain ⟨_, _, _, _, cl8, _⟩ := row5 hV8; replace hS8 := hide' hS8; clear hown8 hg8 hat8 hlt8 hV8)
        all_goals (clear hS7 p47 o47 o4a t0 t1 t2 t3 t4)
        all_goals go_wp2
        all_goals go_roundw
        all_goals first | exact ⟨k + 1, m + 1, _, by omega, by go_num, rfl, by omega, hSt', _, _, _, _, hS8⟩ | (simp [intOf]; omega)
      · go_wp2_with fail
        obtain ⟨_, _, _, o3a, _, _⟩ := box_later HI.out.1
        go_cut [10] from 12 to 65 (fun s10 wx => s10 = .int .i64 (-1) ∧ ∃ pa ca ua, Hid (SIx R w w1 (w.heap.size + 1 + 1 + 1) d F FL x (m + 1) m wx (.slice pa (m + 1) ca) (.slice pL m cL) ua fs))
        case first =>
          go_region_law (refine step_append_lies _ (by rfl) _ _ _ (by rfl) w1.heap.size 22 iT (.slice none 0 0) 1 24 Tryz.underlying23 hiT hy0 hy1 hy2 rfl (by decide) (.slice pK m cK) m us (by rfl) (by first | exact HI.out.2.2.1.alloc _ | exact (HI.out.2.2.1.alloc _).drew | exact ((HI.out.2.2.1.alloc _).drew).drew) ⟨wr.heap.size, 0, none⟩ 1 1 [.slice ak kn akc] (by rfl) (by rfl) (World.news_of_block (cs := #[.slice ak kn akc]) (t := 22) (fr := (0, 0)) (heap_alloc_new wr _)) (by simp [Value.oneCell']) (by omega) (by unfold maxLen; omega) (by omega) (by simp; omega) (wr.heap.size + 1) (by simp) ?_; intro g7 cp7 w7 hown7 hg7 hat7 hlt7; obtain ⟨hV7, hf7, hS7⟩ := six_k HI.out (by omega) (by first | exact (Below.refl _ _).alloc (Nat.le_refl _) _ | exact ((Below.refl _ _).alloc (Nat.le_refl _) _).drew | exact (((Below.refl _ _).alloc (Nat.le_refl _) _).drew).drew) hown7 hg7 (by simpa using hat7) (by rw [hFm]; exact HTk.out); obtain ⟨_, _, _, ck7, _, _⟩ := row5 hV7; replace hS7 := hide' hS7; clear hown7 hg7 hat7 hlt7 hV7)
          all_goals (go_wp2_with fail; go_meet; exact ⟨rfl, _, _, _, hS7⟩)
        case rest =>
        obtain ⟨rfl, pa, ca, ua, hS7⟩ := hcut
        have hz7 := hS7.out.2.1.size
        have hB7 : Below w.heap.size w wc := HB1.out.grown hS7.out.2.1 (by omega) (by intro j hj; simp at hj; omega)
        obtain ⟨_, _, _, _, p47, _⟩ := row5 ((hS7.out.2.1.block w.heap.size (by omega) (by simp; omega)).trans HP.out)
        obtain ⟨_, _, _, _, o47, _⟩ := row5 hS7.out.1
        obtain ⟨_, _, _, _, o4a, _⟩ := box_later hS7.out.1
        obtain ⟨t0, t1, t2, t3, t4⟩ := HF5.out _ hB7
        clear hB7 o3a
        go_wp2_with fail
        go_region_law (refine step_append_lies _ (by rfl) _ _ _ (by rfl) w1.heap.size 26 iV _ 5 88 Tryz.underlying24 hiV hz0 hz1 hz2 rfl (by decide) (.slice pL m cL) m ((fs.map enc5).flatten) (by rfl) (by first | exact hS7.out.2.2.2.1.alloc _ | exact (hS7.out.2.2.2.1.alloc _).drew | exact ((hS7.out.2.2.2.1.alloc _).drew).drew) ⟨wc.heap.size, 0, none⟩ 1 1 [.int .i64 zk, .int .i64 zn, .slice g2 n2 r2, .slice g3 n3 r3, .slice g4 n4 r4] (by rfl) (by rfl) (World.news_of_block (cs := #[.int .i64 zk, .int .i64 zn, .slice g2 n2 r2, .slice g3 n3 r3, .slice g4 n4 r4]) (t := 26) (fr := (0, 0)) (heap_alloc_new wc _)) (by simp [Value.oneCell']) (by omega) (by unfold maxLen; omega) (by omega) (by simp; omega) (wc.heap.size + 1) (by simp) ?_; intro g8 cp8 w8 hown8 hg8 hat8 hlt8; obtain ⟨hV8, hf8, hS8⟩ := six_l (e := (.int .i64 zk, .int .i64 zn, .slice g2 n2 r2, .slice g3 n3 r3, .slice g4 n4 r4)) hS7.out (by omega) (by first | exact (Below.refl _ _).alloc (Nat.le_refl _) _ | exact ((Below.refl _ _).alloc (Nat.le_refl _) _).drew | exact (((Below.refl _ _).alloc (Nat.le_refl _) _).drew).drew) hown8 hg8 (by simpa using hat8) (by rw [hFLm]; exact HVk.out); obtain ⟨_, _, _, _, cl8, _⟩ := row5 hV8; replace hS8 := hide' hS8; clear hown8 hg8 hat8 hlt8 hV8)
        all_goals (clear hS7 p47 o47 o4a t0 t1 t2 t3 t4)
        all_goals go_wp2
        all_goals go_roundw
        all_goals first | exact ⟨k + 1, m + 1, _, by omega, by go_num, rfl, by omega, hSt', _, _, _, _, hS8⟩ | (simp [intOf]; omega)
      · obtain ⟨_, _, _, o3a, _, _⟩ := box_later HI.out.1
        go_upto_region 9 with (at_builtin; refine wpList_append_lies _ rfl _ _ 23 rfl w1.heap.size 22 iT (.slice none 0 0) 1 24 Tryz.underlying23 hiT hy0 hy1 hy2 rfl (by decide) (.slice pK m cK) m us (by rfl) (by first | exact HI.out.2.2.1.alloc _ | exact (HI.out.2.2.1.alloc _).drew | exact ((HI.out.2.2.1.alloc _).drew).drew) ⟨wr.heap.size, 0, none⟩ 1 1 [.slice ka key.length kc] (by rfl) (by rfl) (World.news_of_block (cs := #[.slice ka key.length kc]) (t := 22) (fr := (0, 0)) (heap_alloc_new wr _)) (by simp [Value.oneCell']) (by omega) (by unfold maxLen; omega) (by omega) (by simp; omega) (wr.heap.size + 1) (by simp) ?_; intro g5 cp5 w5 hown5 hg5 hat5 hlt5; obtain ⟨hV5, hf5, hS5⟩ := six_k HI.out (by omega) (by first | exact (Below.refl _ _).alloc (Nat.le_refl _) _ | exact ((Below.refl _ _).alloc (Nat.le_refl _) _).drew | exact (((Below.refl _ _).alloc (Nat.le_refl _) _).drew).drew) hown5 hg5 (by simpa using hat5) (by rw [hFm]; exact HT.out); obtain ⟨_, _, _, ck5, _, _⟩ := row5 hV5; replace hS5 := hide' hS5; clear hown5 hg5 hat5 hlt5 hV5)
        generalize hw5 : w5.setCell ⟨w.heap.size + 1 + 1 + 1, 3, none⟩ (.slice (some ⟨g5, 0, none⟩) (m + 1) cp5) = wq at *
        have hzq := hS5.out.2.1.size
        have hqX := (hS5.out.2.1.block (w.heap.size + 1) (by omega) (by simp)).trans HXb.out
        obtain ⟨x0, x1, x2, x3, x4, _⟩ := row5 hqX
        obtain ⟨_, _, _, _, o45, _⟩ := row5 hS5.out.1
        obtain ⟨_, _, _, _, o45a, _⟩ := box_later hS5.out.1
        clear hw5 hqX o3a
        go_wp2_with (at_builtin; refine wpList_append_lies _ rfl _ _ 24 rfl w1.heap.size 26 iV _ 5 88 Tryz.underlying24 hiV hz0 hz1 hz2 rfl (by decide) (.slice pL m cL) m ((fs.map enc5).flatten) (by rfl) (by first | exact hS5.out.2.2.2.1.alloc _ | exact (hS5.out.2.2.2.1.alloc _).drew | exact ((hS5.out.2.2.2.1.alloc _).drew).drew) ⟨wq.heap.size, 0, none⟩ 1 1 [.int .i64 xk, .int .i64 xn, .slice b2 m2 q2, .slice b3 m3 q3, .slice b4 m4 q4] (by rfl) (by rfl) (World.news_of_block (cs := #[.int .i64 xk, .int .i64 xn, .slice b2 m2 q2, .slice b3 m3 q3, .slice b4 m4 q4]) (t := 26) (fr := (0, 0)) (heap_alloc_new wq _)) (by simp [Value.oneCell']) (by omega) (by unfold maxLen; omega) (by omega) (by simp; omega) (wq.heap.size + 1) (by simp) ?_; intro g6 cp6 w6 hown6 hg6 hat6 hlt6; obtain ⟨hV6, hf6, hS6⟩ := six_l (e := (.int .i64 xk, .int .i64 xn, .slice b2 m2 q2, .slice b3 m3 q3, .slice b4 m4 q4)) hS5.out (by omega) (by first | exact (Below.refl _ _).alloc (Nat.le_refl _) _ | exact ((Below.refl _ _).alloc (Nat.le_refl _) _).drew | exact (((Below.refl _ _).alloc (Nat.le_refl _) _).drew).drew) hown6 hg6 (by simpa using hat6) (by rw [hFLm]; exact HX.out); obtain ⟨_, _, _, _, cl6, _⟩ := row5 hV6; replace hS6 := hide' hS6; clear hown6 hg6 hat6 hlt6 hV6)
        go_roundw
        all_goals first | exact ⟨k + 1, m + 1, _, by omega, by go_num, rfl, by omega, hSt', _, _, _, _, hS6⟩ | (simp [intOf]; omega)
      · obtain ⟨_, _, _, o3a, _, _⟩ := box_later HI.out.1
        go_upto_region 9 with (at_builtin; refine wpList_append_lies _ rfl _ _ 23 rfl w1.heap.size 22 iT (.slice none 0 0) 1 24 Tryz.underlying23 hiT hy0 hy1 hy2 rfl (by decide) (.slice pK m cK) m us (by rfl) (by first | exact HI.out.2.2.1.alloc _ | exact (HI.out.2.2.1.alloc _).drew | exact ((HI.out.2.2.1.alloc _).drew).drew) ⟨wr.heap.size, 0, none⟩ 1 1 [.slice ka key.length kc] (by rfl) (by rfl) (World.news_of_block (cs := #[.slice ka key.length kc]) (t := 22) (fr := (0, 0)) (heap_alloc_new wr _)) (by simp [Value.oneCell']) (by omega) (by unfold maxLen; omega) (by omega) (by simp; omega) (wr.heap.size + 1) (by simp) ?_; intro g5 cp5 w5 hown5 hg5 hat5 hlt5; obtain ⟨hV5, hf5, hS5⟩ := six_k HI.out (by omega) (by first | exact (Below.refl _ _).alloc (Nat.le_refl _) _ | exact ((Below.refl _ _).alloc (Nat.le_refl _) _).drew | exact (((Below.refl _ _).alloc (Nat.le_refl _) _).drew).drew) hown5 hg5 (by simpa using hat5) (by rw [hFm]; exact HT.out); obtain ⟨_, _, _, ck5, _, _⟩ := row5 hV5; replace hS5 := hide' hS5; clear hown5 hg5 hat5 hlt5 hV5)
        generalize hw5 : w5.setCell ⟨w.heap.size + 1 + 1 + 1, 3, none⟩ (.slice (some ⟨g5, 0, none⟩) (m + 1) cp5) = wq at *
        have hzq := hS5.out.2.1.size
        have hqX := (hS5.out.2.1.block (w.heap.size + 1) (by omega) (by simp)).trans HXb.out
        obtain ⟨x0, x1, x2, x3, x4, _⟩ := row5 hqX
        obtain ⟨_, _, _, _, o45, _⟩ := row5 hS5.out.1
        obtain ⟨_, _, _, _, o45a, _⟩ := box_later hS5.out.1
        clear hw5 hqX o3a
        go_wp2_with (at_builtin; refine wpList_append_lies _ rfl _ _ 24 rfl w1.heap.size 26 iV _ 5 88 Tryz.underlying24 hiV hz0 hz1 hz2 rfl (by decide) (.slice pL m cL) m ((fs.map enc5).flatten) (by rfl) (by first | exact hS5.out.2.2.2.1.alloc _ | exact (hS5.out.2.2.2.1.alloc _).drew | exact ((hS5.out.2.2.2.1.alloc _).drew).drew) ⟨wq.heap.size, 0, none⟩ 1 1 [.int .i64 xk, .int .i64 xn, .slice b2 m2 q2, .slice b3 m3 q3, .slice b4 m4 q4] (by rfl) (by rfl) (World.news_of_block (cs := #[.int .i64 xk, .int .i64 xn, .slice b2 m2 q2, .slice b3 m3 q3, .slice b4 m4 q4]) (t := 26) (fr := (0, 0)) (heap_alloc_new wq _)) (by simp [Value.oneCell']) (by omega) (by unfold maxLen; omega) (by omega) (by simp; omega) (wq.heap.size + 1) (by simp) ?_; intro g6 cp6 w6 hown6 hg6 hat6 hlt6; obtain ⟨hV6, hf6, hS6⟩ := six_l (e := (.int .i64 xk, .int .i64 xn, .slice b2 m2 q2, .slice b3 m3 q3, .slice b4 m4 q4)) hS5.out (by omega) (by first | exact (Below.refl _ _).alloc (Nat.le_refl _) _ | exact ((Below.refl _ _).alloc (Nat.le_refl _) _).drew | exact (((Below.refl _ _).alloc (Nat.le_refl _) _).drew).drew) hown6 hg6 (by simpa using hat6) (by rw [hFLm]; exact HX.out); obtain ⟨_, _, _, _, cl6, _⟩ := row5 hV6; replace hS6 := hide' hS6; clear hown6 hg6 hat6 hlt6 hV6)
        generalize hw6 : w6.setCell ⟨w.heap.size + 1 + 1 + 1, 4, none⟩ (.slice (some ⟨g6, 0, none⟩) (m + 1) cp6) = wz at *
        have hzz := hS6.out.2.1.size
        have hBz : Below w.heap.size w wz := HB1.out.grown hS6.out.2.1 (by omega) (by intro j hj; simp at hj; omega)
        obtain ⟨_, _, _, p3z, p4z, _⟩ := row5 ((hS6.out.2.1.block w.heap.size (by omega) (by simp; omega)).trans HP.out)
        have hcz : wz.cell? ⟨bK, oK + k, none⟩ = some (.slice ak kn akc) := HCK.out wz hBz
        clear hw6 hS5 hBz x0 x1 x2 x3 x4 o45 o45a
        obtain ⟨pK2, cK2, us2, pL2, cL2, fs2, hS9⟩ : ∃ pK2 cK2 us2 pL2 cL2 fs2, Hid (SIx R w w1 (w.heap.size + 1 + 1 + 1) d F FL x (m + 1) (m + 1) wz (.slice pK2 (m + 1) cK2) (.slice pL2 (m + 1) cL2) us2 fs2) := ⟨_, _, _, _, _, _, hS6⟩
        generalize hM : m + 1 = M at *
        have hMk : M ≤ k + 1 := by have := Hm2.out (by first | trivial | rfl); omega
        obtain ⟨_, _, _, o3z, o4z, _⟩ := row5 hS9.out.1
        clear hS6
        obtain ⟨_, _, _, o3a, _, _⟩ := box_later hS9.out.1
        go_cut [10] from 12 to 65 (fun s10 wx => s10 = .int .i64 (-1) ∧ ∃ pa ca ua, Hid (SIx R w w1 (w.heap.size + 1 + 1 + 1) d F FL x (M + 1) M wx (.slice pa (M + 1) ca) (.slice pL2 M cL2) ua fs2))
        case first =>
          go_region_law (refine step_append_lies _ (by rfl) _ _ _ (by rfl) w1.heap.size 22 iT (.slice none 0 0) 1 24 Tryz.underlying23 hiT hy0 hy1 hy2 rfl (by decide) (.slice pK2 M cK2) M us2 (by rfl) (by first | exact hS9.out.2.2.1.alloc _ | exact (hS9.out.2.2.1.alloc _).drew | exact ((hS9.out.2.2.1.alloc _).drew).drew) ⟨wz.heap.size, 0, none⟩ 1 1 [.slice ak kn akc] (by rfl) (by rfl) (World.news_of_block (cs := #[.slice ak kn akc]) (t := 22) (fr := (0, 0)) (heap_alloc_new wz _)) (by simp [Value.oneCell']) (by omega) (by unfold maxLen; omega) (by omega) (by simp; omega) (wz.heap.size + 1) (by simp) ?_; intro g7 cp7 w7 hown7 hg7 hat7 hlt7; obtain ⟨hV7, hf7, hS7⟩ := six_k hS9.out (by omega) (by first | exact (Below.refl _ _).alloc (Nat.le_refl _) _ | exact ((Below.refl _ _).alloc (Nat.le_refl _) _).drew | exact (((Below.refl _ _).alloc (Nat.le_refl _) _).drew).drew) hown7 hg7 (by simpa using hat7) (by rw [hFm2]; exact HTk.out); obtain ⟨_, _, _, ck7, _, _⟩ := row5 hV7; replace hS7 := hide' hS7; clear hown7 hg7 hat7 hlt7 hV7)
          all_goals (go_wp2_with fail; go_meet; exact ⟨rfl, _, _, _, hS7⟩)
        case rest =>
        obtain ⟨rfl, pa, ca, ua, hS7⟩ := hcut
        have hz7 := hS7.out.2.1.size
        have hB7 : Below w.heap.size w wc := HB1.out.grown hS7.out.2.1 (by omega) (by intro j hj; simp at hj; omega)
        obtain ⟨_, _, _, _, p47, _⟩ := row5 ((hS7.out.2.1.block w.heap.size (by omega) (by simp; omega)).trans HP.out)
        obtain ⟨_, _, _, _, o47, _⟩ := row5 hS7.out.1
        obtain ⟨_, _, _, _, o4a, _⟩ := box_later hS7.out.1
        obtain ⟨t0, t1, t2, t3, t4⟩ := HF5.out _ hB7
        clear hB7 o3a
        go_wp2_with fail
        go_region_law (refine step_append_lies _ (by rfl) _ _ _ (by rfl) w1.heap.size 26 iV _ 5 88 Tryz.underlying24 hiV hz0 hz1 hz2 rfl (by decide) (.slice pL2 M cL2) M ((fs2.map enc5).flatten) (by rfl) (by first | exact hS7.out.2.2.2.1.alloc _ | exact (hS7.out.2.2.2.1.alloc _).drew | exact ((hS7.out.2.2.2.1.alloc _).drew).drew) ⟨wc.heap.size, 0, none⟩ 1 1 [.int .i64 zk, .int .i64 zn, .slice g2 n2 r2, .slice g3 n3 r3, .slice g4 n4 r4] (by rfl) (by rfl) (World.news_of_block (cs := #[.int .i64 zk, .int .i64 zn, .slice g2 n2 r2, .slice g3 n3 r3, .slice g4 n4 r4]) (t := 26) (fr := (0, 0)) (heap_alloc_new wc _)) (by simp [Value.oneCell']) (by omega) (by unfold maxLen; omega) (by omega) (by simp; omega) (wc.heap.size + 1) (by simp) ?_; intro g8 cp8 w8 hown8 hg8 hat8 hlt8; obtain ⟨hV8, hf8, hS8⟩ := six_l (e := (.int .i64 zk, .int .i64 zn, .slice g2 n2 r2, .slice g3 n3 r3, .slice g4 n4 r4)) hS7.out (by omega) (by first | exact (Below.refl _ _).alloc (Nat.le_refl _) _ | exact ((Below.refl _ _).alloc (Nat.le_refl _) _).drew | exact (((Below.refl _ _).alloc (Nat.le_refl _) _).drew).drew) hown8 hg8 (by simpa using hat8) (by rw [hFLm2]; exact HVk.out); obtain ⟨_, _, _, _, cl8, _⟩ := row5 hV8; replace hS8 := hide' hS8; clear hown8 hg8 hat8 hlt8 hV8)
        all_goals (clear hS7 p47 o47 o4a t0 t1 t2 t3 t4)
        all_goals go_wp2
        all_goals go_roundw
        all_goals first | exact ⟨k + 1, M + 1, _, by omega, by go_num, rfl, by omega, hSt', _, _, _, _, hS8⟩ | (simp [intOf]; omega)
    · have hkn : k = vK.length := by omega
      have hltn : ¬ (k : Int) < (vK.length : Int) := by omega
      have hcs := HLs.out m pb (by rw [hkn] at hSt; exact hSt)
      have HI := hide' hI.out
      have HRr := hide' hRr
      clear hSt hkn HRd HLs hg hI hBr hXr hRr
      rcases hcs with ⟨rfl, hFm, hFLm, hlF', hlFL'⟩ | ⟨rfl, hlF', hlFL'⟩
      · have hlF := hide' hlF'
        have hlFL := hide' hlFL'
        clear hlF' hlFL'
        obtain ⟨_, _, _, o3a, _, _⟩ := box_later HI.out.1
        go_upto_region 16 with (at_builtin; refine wpList_append_lies _ rfl _ _ 23 rfl w1.heap.size 22 iT (.slice none 0 0) 1 24 Tryz.underlying23 hiT hy0 hy1 hy2 rfl (by decide) (.slice pK m cK) m us (by rfl) (by first | exact HI.out.2.2.1.alloc _ | exact (HI.out.2.2.1.alloc _).drew | exact ((HI.out.2.2.1.alloc _).drew).drew) ⟨wr.heap.size, 0, none⟩ 1 1 [.slice ka key.length kc] (by rfl) (by rfl) (World.news_of_block (cs := #[.slice ka key.length kc]) (t := 22) (fr := (0, 0)) (heap_alloc_new wr _)) (by simp [Value.oneCell']) (by omega) (by unfold maxLen; omega) (by omega) (by simp; omega) (wr.heap.size + 1) (by simp) ?_; intro g5 cp5 w5 hown5 hg5 hat5 hlt5; obtain ⟨hV5, hf5, hS5⟩ := six_k HI.out (by omega) (by first | exact (Below.refl _ _).alloc (Nat.le_refl _) _ | exact ((Below.refl _ _).alloc (Nat.le_refl _) _).drew | exact (((Below.refl _ _).alloc (Nat.le_refl _) _).drew).drew) hown5 hg5 (by simpa using hat5) (by rw [hFm]; exact HT.out); obtain ⟨_, _, _, ck5, _, _⟩ := row5 hV5; replace hS5 := hide' hS5; clear hown5 hg5 hat5 hlt5 hV5)
        generalize hw5 : w5.setCell ⟨w.heap.size + 1 + 1 + 1, 3, none⟩ (.slice (some ⟨g5, 0, none⟩) (m + 1) cp5) = wq at *
        have hzq := hS5.out.2.1.size
        have hqX := (hS5.out.2.1.block (w.heap.size + 1) (by omega) (by simp)).trans HXb.out
        obtain ⟨x0, x1, x2, x3, x4, _⟩ := row5 hqX
        obtain ⟨_, _, _, _, o45, _⟩ := row5 hS5.out.1
        obtain ⟨_, _, _, _, o45a, _⟩ := box_later hS5.out.1
        clear hw5 hqX o3a
        go_upto_region 17 with (at_builtin; refine wpList_append_lies _ rfl _ _ 24 rfl w1.heap.size 26 iV _ 5 88 Tryz.underlying24 hiV hz0 hz1 hz2 rfl (by decide) (.slice pL m cL) m ((fs.map enc5).flatten) (by rfl) (by first | exact hS5.out.2.2.2.1.alloc _ | exact (hS5.out.2.2.2.1.alloc _).drew | exact ((hS5.out.2.2.2.1.alloc _).drew).drew) ⟨wq.heap.size, 0, none⟩ 1 1 [.int .i64 xk, .int .i64 xn, .slice b2 m2 q2, .slice b3 m3 q3, .slice b4 m4 q4] (by rfl) (by rfl) (World.news_of_block (cs := #[.int .i64 xk, .int .i64 xn, .slice b2 m2 q2, .slice b3 m3 q3, .slice b4 m4 q4]) (t := 26) (fr := (0, 0)) (heap_alloc_new wq _)) (by simp [Value.oneCell']) (by omega) (by unfold maxLen; omega) (by omega) (by simp; omega) (wq.heap.size + 1) (by simp) ?_; intro g6 cp6 w6 hown6 hg6 hat6 hlt6; obtain ⟨hV6, hf6, hS6⟩ := six_l (e := (.int .i64 xk, .int .i64 xn, .slice b2 m2 q2, .slice b3 m3 q3, .slice b4 m4 q4)) hS5.out (by omega) (by first | exact (Below.refl _ _).alloc (Nat.le_refl _) _ | exact ((Below.refl _ _).alloc (Nat.le_refl _) _).drew | exact (((Below.refl _ _).alloc (Nat.le_refl _) _).drew).drew) hown6 hg6 (by simpa using hat6) (by rw [hFLm]; exact HX.out); obtain ⟨_, _, _, _, cl6, _⟩ := row5 hV6; replace hS6 := hide' hS6; clear hown6 hg6 hat6 hlt6 hV6)
        generalize hw6 : w6.setCell ⟨w.heap.size + 1 + 1 + 1, 4, none⟩ (.slice (some ⟨g6, 0, none⟩) (m + 1) cp6) = wz at *
        have hzz := hS6.out.2.1.size
        obtain ⟨y0, y1, y2, y3, y4, _⟩ := row5 hS6.out.1
        have hRz := (hS6.out.2.1.block (w.heap.size + 1 + 1) (by omega) (by simp)).trans HR.out
        obtain ⟨r0, r1, r2', r3', r4', rf⟩ := row5 hRz
        have f0 := rf 0
        have f1 := rf 1
        have f2 := rf 2
        have f3 := rf 3
        have f4 := rf 4
        have HRz := hide' hRz
        clear rf hw6 hS5 x0 x1 x2 x3 x4 o45 o45a hRz
        go_wp2_with fail
        have hrow := set5_heap (j := 0) (.int .i64 5) (.int .i64 0) (.slice none 0 0) (.slice (some ⟨g5, 0, none⟩) (m + 1) cp5) (.slice (some ⟨g6, 0, none⟩) (m + 1) cp6) HRz.out
        have hfin := row5 hrow
        simp only [set5, Nat.zero_add] at hfin
        obtain ⟨q0, q1, q2', q3', q4', _⟩ := hfin
        refine bodyPost_ret (v := .agg #[.int .i64 5, .int .i64 0, .slice none 0 0, (.slice (some ⟨g5, 0, none⟩) (m + 1) cp5), (.slice (some ⟨g6, 0, none⟩) (m + 1) cp6)]) (by simp [results, Tryz.results53, go_sem, q0, q1, q2', q3', q4']) rfl ?_
        have hB5 := set5_grown wz (w.heap.size + 1 + 1) 0 (.int .i64 5) (.int .i64 0) (.slice none 0 0) (.slice (some ⟨g5, 0, none⟩) (m + 1) cp5) (.slice (some ⟨g6, 0, none⟩) (m + 1) cp6)
        have hbz : Below w.heap.size w wz := HB1.out.grown hS6.out.2.1 (by omega) (by intro j hj; simp at hj; omega)
        have hbf := hbz.grown hB5 hbz.size (by intro j hj; simp at hj; omega)
        exact ⟨_, _, _, _, _, rfl, six_end hS6.out hlF.out hlFL.out hB5 (by omega) hbf HRl.out (by omega), hbf⟩
      · have hlF := hide' hlF'
        have hlFL := hide' hlFL'
        clear hlF' hlFL'
        have hS6 := HI
        have HRz := HRr
        obtain ⟨r0, r1, r2', r3', r4', rf⟩ := row5 HRz.out
        have f0 := rf 0
        have f1 := rf 1
        have f2 := rf 2
        have f3 := rf 3
        have f4 := rf 4
        clear rf
        go_wp2_with fail
        have hrow := set5_heap (j := 0) (.int .i64 5) (.int .i64 0) (.slice none 0 0) (.slice pK m cK) (.slice pL m cL) HRz.out
        have hfin := row5 hrow
        simp only [set5, Nat.zero_add] at hfin
        obtain ⟨q0, q1, q2', q3', q4', _⟩ := hfin
        refine bodyPost_ret (v := .agg #[.int .i64 5, .int .i64 0, .slice none 0 0, (.slice pK m cK), (.slice pL m cL)]) (by simp [results, Tryz.results53, go_sem, q0, q1, q2', q3', q4']) rfl ?_
        have hB5 := set5_grown wr (w.heap.size + 1 + 1) 0 (.int .i64 5) (.int .i64 0) (.slice none 0 0) (.slice pK m cK) (.slice pL m cL)
        have hbz : Below w.heap.size w wr := HB1.out.grown hS6.out.2.1 (by omega) (by intro j hj; simp at hj; omega)
        have hbf := hbz.grown hB5 hbz.size (by intro j hj; simp at hj; omega)
        exact ⟨_, _, _, _, _, rfl, six_end hS6.out hlF.out hlFL.out hB5 (by omega) hbf HRl.out (by omega), hbf⟩

end Go.Proofs.YthnkedbmfhokiaaGreatDoor
