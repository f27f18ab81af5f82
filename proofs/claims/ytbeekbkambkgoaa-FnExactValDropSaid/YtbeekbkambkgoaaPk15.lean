/-
  Texts that a law leans on, one behind the other; no statement is proved here.
-/
import Derived.Test.YtbeekbkambkgoaaPk13
import Derived.Test.YtbeekbkambkgoaaPk3
import Derived.Test.YtbeekbkambkgoaaPk11
/-
  ValGet of the program: the walk.
-/
namespace Go.Proofs.Ytbeekbkambkgoaa
open Go.RowKit Go.Shelf
set_option linter.unusedVariables false
set_option linter.unusedSimpArgs false

set_option maxHeartbeats 3200000 in
set_option maxRecDepth 100000 in
theorem impl_ValGet_any (d N : Nat) (c0 c1 c2 c3 c4 : Value) (v : Vl (d + 1)) (ka : Option Addr) (kc : Nat) (key : List Int) (w : World) (hv : VSeg (fun b => b < N) w (d + 1) (c0, c1, c2, c3, c4) v) (hN : N ≤ w.heap.size) (hS : Seg w ka key) (hSb : ∀ x, ka = some x → key ≠ [] → x.block < w.heap.size) (hkl : key.length ≤ maxLen) :
    Calls Try.prog 10 #[.agg #[c0, c1, c2, c3, c4], .slice ka key.length kc] w (GetEnd d v key w) := by
  have HA : Hid (∀ o o' : Obj, Below w.heap.size w ((w.alloc o).alloc o') ∧ ((w.alloc o).alloc o').heap[w.heap.size + 1]? = some o') := fun o o' => ⟨((Below.refl _ _).alloc (Nat.le_refl _) o).alloc (by simp) o', by have := (MapKept.heap_alloc (w.alloc o) o').1; simpa using this⟩
  have HP : Hid (∀ o o' : Obj, Calls Try.prog 31 #[.agg #[c0, c1, c2, c3, c4]] ((w.alloc o).alloc o') (MapOf (d + 1) v ((w.alloc o).alloc o'))) := fun o o' => mapOf_any (d + 1) N c0 c1 c2 c3 c4 v _ (VSeg.agree (fun b (h : b < N) => (HA.out o o').1.block b (by omega)) (d + 1) hv) (by simp; omega)
  have HSg : Hid (∀ wx, Below w.heap.size w wx → Seg wx ka key) := fun wx hb => hS.below hb hSb
  have HByt : Hid (∀ y ∈ key, Byt y) := hS.1
  clear hv hS hSb
  go_enter Try.func10, Try.ntmps10
  go_wp2_with fail
  refine (HP.out _ _).mono ?_
  rintro e w1 ⟨b1, ⟨b, rfl, hok, hk, hp⟩ | ⟨rfl, hno⟩⟩
  · have hR1 : w1.heap[w.heap.size + 1]? = some (.cells #[.int .i64 0, .int .i64 0, .slice none 0 0, .slice none 0 0, .slice none 0 0] 30 (0, 0)) := (b1.block _ (by simp)).trans (HA.out _ _).2
    have hlt : w.heap.size + 1 < w1.heap.size := (Array.getElem?_eq_some_iff.1 hR1).1
    have hB1 := Below.on (HA.out _ _).1 b1
    have HBM : Hid (∀ o, Below w.heap.size w (w1.alloc o)) := fun o => hB1.alloc hB1.size o
    have HB1' := hide' hB1
    have hk5 : v.1 = 5 := hk
    obtain ⟨hbR, ps, hm, hc⟩ := mapPart_inv hp hk5
    have hok' := hok
    simp only [okB, Bool.and_eq_true, decide_eq_true_eq] at hok'
    obtain ⟨vk, vn, vs, vK, vL⟩ := v
    simp only at hk5 hm hc
    subst hk5
    obtain ⟨_, hsh, hgk⟩ := (good_succ _ _ _ _ _ _ _).1 hok'.1
    have hkid := parts_kid hok'.2
    obtain ⟨hKL, hasc⟩ := shape_mapB hsh
    have hst : ∀ i, i < vL.length → stepB vK i = true := by
      intro i hi
      rw [ascB, List.all_eq_true] at hasc
      exact hasc i (List.mem_range.2 (by omega))
    have hcv : ∀ o, (convert 22 9 (.slice ka key.length kc)).run Try.prog (w1.alloc o) = .ok (.string (strOf key)) (w1.alloc o) := fun o => conv_seg kc (HSg.out _ (HBM.out o))
    have HR1 := hide' hR1
    obtain ⟨k, hkK, hke, hkn, hfk⟩ | ⟨hnone, hfk⟩ := find_cases vK key
    · have hlk : ∀ o, (Instr.lookup 50 (.map (some b)) (.string (strOf key)) true).run Try.prog (w1.alloc o) = .ok (.tuple #[ps.getD k .nilIface, .bool true]) (w1.alloc o) := fun o => look_at (hm.alloc o) hst (fun i hi => (step_name (hst i hi)).1) HByt.out hkl (by omega) hkn hke
      have hkL : k < vL.length := by omega
      obtain ⟨pt, px, hpx⟩ := (hc k hkL).shape
      have hck := hc k hkL
      rw [hpx] at hlk hck
      have HV : Hid (∀ o, Calls Try.prog 32 #[.iface pt px] (w1.alloc o) (ValEnd d (vL[k]'hkL) (w1.alloc o))) := fun o => valueOf_any d w1.heap.size _ _ (1 + 1) _ (PSeg.carry (fun b' h => h.2) (fun b' h => Below.heap_alloc w1 o b' h.2) d hck) (by simp) (hgk k hkL) (hkid k hkL)
      have HF := hide' (And.intro hok (And.intro hfk hKL))
      clear hp hm hc hsh hgk hkid hasc hst hR1 hB1 b1 hok hok' hck hkn hke hfk HP
      generalize hsx : strOf key = sx at *
      go_wp2_with fail
      refine (HV.out _).mono ?_
      rintro e w2 ⟨u0, u1, u2, u3, u4, rfl, B, hO, hB, hb2⟩
      obtain ⟨uk, un, s2, n2, r2, s3, n3, r3, s4, n4, r4, rfl, rfl, rfl, rfl, rfl⟩ := VOwn.form d hO
      have hR2 : w2.heap[w.heap.size + 1]? = some (.cells #[.int .i64 0, .int .i64 0, .slice none 0 0, .slice none 0 0, .slice none 0 0] 30 (0, 0)) := (hb2.block _ (by simp; omega)).trans ((Below.heap_alloc _ _ _ hlt).trans HR1.out)
      obtain ⟨r0', r1', r2', r3', r4', rf⟩ := row5 hR2
      have f0 := rf 0
      have f1 := rf 1
      have f2 := rf 2
      have f3 := rf 3
      have f4 := rf 4
      have hz2 := hb2.size
      simp at hz2
      have hBf := Below.on (HBM.out _) hb2
      have HR2 := hide' hR2
      have HO := hide' hO
      have HB := hide' hB
      have HBf := hide' hBf
      clear rf hR2 hO hB hBf hb2 HV
      go_wp2_with fail
      have hrow := set5_heap (j := 0) (.int .i64 uk) (.int .i64 un) (.slice s2 n2 r2) (.slice s3 n3 r3) (.slice s4 n4 r4) HR2.out
      have hfin := row5 hrow
      simp only [set5, Nat.zero_add] at hfin
      obtain ⟨y0, y1, y2, y3, y4, _⟩ := hfin
      refine bodyPost_ret (v := .tuple #[.agg #[.int .i64 uk, .int .i64 un, .slice s2 n2 r2, .slice s3 n3 r3, .slice s4 n4 r4], .bool true]) (by simp [results, Try.results10, go_sem, y0, y1, y2, y3, y4]) rfl ?_
      have hB5 := set5_grown w2 (w.heap.size + 1) 0 (.int .i64 uk) (.int .i64 un) (.slice s2 n2 r2) (.slice s3 n3 r3) (.slice s4 n4 r4)
      have hsz4 := set5_size w2 (w.heap.size + 1) 0 (.int .i64 uk) (.int .i64 un) (.slice s2 n2 r2) (.slice s3 n3 r3) (.slice s4 n4 r4)
      have hbd : ∀ b ∈ B, w1.heap.size + 1 ≤ b ∧ b < w2.heap.size := fun b hb => by have := HB.out b hb; simp at this; exact this
      refine ⟨HBf.out.grown hB5 (by omega) (by intro j hj; simp at hj; omega), .inl ⟨k, hkL, HF.out.1, rfl, HF.out.2.1, _, _, _, _, _, rfl, B, ?_, fun b hb => ?_⟩⟩
      · exact VOwn.agree d HO.out fun b hb => hB5.block b (hbd b hb).2 (by have := hbd b hb; simp; omega)
      · have := hbd b hb
        show w.heap.size ≤ b ∧ b < (set5 _ _ _ _ _ _ _ _).heap.size
        omega
    · have hlk : ∀ o, (Instr.lookup 50 (.map (some b)) (.string (strOf key)) true).run Try.prog (w1.alloc o) = .ok (.tuple #[.nilIface, .bool false]) (w1.alloc o) := fun o => look_none (hm.alloc o) hst (fun i hi => (step_name (hst i hi)).1) HByt.out hkl (fun i hi => hnone i (by omega))
      have HF := hide' hfk
      clear hp hm hc hsh hgk hkid hasc hst hR1 hB1 b1 hok hok' hnone hfk HP
      generalize hsx : strOf key = sx at *
      obtain ⟨r0, r1, r2, r3, r4, rf⟩ := row5 HR1.out
      have f0 := rf 0
      have f1 := rf 1
      have f2 := rf 2
      have f3 := rf 3
      have f4 := rf 4
      obtain ⟨s0, s1, s2, s3, s4, sf⟩ := box_later HR1.out
      clear rf
      go_wp2_with fail
      have hfin := box_later (set5_heap (j := 0) (.int .i64 0) (.int .i64 0) (.slice none 0 0) (.slice none 0 0) (.slice none 0 0) HR1.out)
      simp only [set5, Nat.zero_add] at hfin
      obtain ⟨y0, y1, y2, y3, y4, _⟩ := hfin
      refine bodyPost_ret (v := .tuple #[.agg #[.int .i64 0, .int .i64 0, .slice none 0 0, .slice none 0 0, .slice none 0 0], .bool false]) (by simp [results, Try.results10, go_sem, y0, y1, y2, y3, y4]) rfl ?_
      have hB5 := set5_grown w1 (w.heap.size + 1) 0 (.int .i64 0) (.int .i64 0) (.slice none 0 0) (.slice none 0 0) (.slice none 0 0)
      have hsz4 := set5_size w1 (w.heap.size + 1) 0 (.int .i64 0) (.int .i64 0) (.slice none 0 0) (.slice none 0 0) (.slice none 0 0)
      exact ⟨(HB1'.out.grown hB5 (by omega) (by intro j hj; simp at hj; omega)).alloc (by omega) _, .inr ⟨fun h => by have h3 := h.2.2; simp only at h3; rw [HF.out] at h3; omega, rfl⟩⟩
  · have hR1 : w1.heap[w.heap.size + 1]? = some (.cells #[.int .i64 0, .int .i64 0, .slice none 0 0, .slice none 0 0, .slice none 0 0] 30 (0, 0)) := (b1.block _ (by simp)).trans (HA.out _ _).2
    have hlt : w.heap.size + 1 < w1.heap.size := (Array.getElem?_eq_some_iff.1 hR1).1
    have hB1 := Below.on (HA.out _ _).1 b1
    have HBM : Hid (∀ o, Below w.heap.size w (w1.alloc o)) := fun o => hB1.alloc hB1.size o
    have HB1' := hide' hB1
    have HR1 := hide' hR1
    have HF := hide' hno
    clear hR1 hB1 b1 hno HP
    obtain ⟨r0, r1, r2, r3, r4, rf⟩ := row5 HR1.out
    have f0 := rf 0
    have f1 := rf 1
    have f2 := rf 2
    have f3 := rf 3
    have f4 := rf 4
    obtain ⟨s0, s1, s2, s3, s4, sf⟩ := box_later HR1.out
    clear rf
    go_wp2_with fail
    have hfin := box_later (set5_heap (j := 0) (.int .i64 0) (.int .i64 0) (.slice none 0 0) (.slice none 0 0) (.slice none 0 0) HR1.out)
    simp only [set5, Nat.zero_add] at hfin
    obtain ⟨y0, y1, y2, y3, y4, _⟩ := hfin
    refine bodyPost_ret (v := .tuple #[.agg #[.int .i64 0, .int .i64 0, .slice none 0 0, .slice none 0 0, .slice none 0 0], .bool false]) (by simp [results, Try.results10, go_sem, y0, y1, y2, y3, y4]) rfl ?_
    have hB5 := set5_grown w1 (w.heap.size + 1) 0 (.int .i64 0) (.int .i64 0) (.slice none 0 0) (.slice none 0 0) (.slice none 0 0)
    have hsz4 := set5_size w1 (w.heap.size + 1) 0 (.int .i64 0) (.int .i64 0) (.slice none 0 0) (.slice none 0 0) (.slice none 0 0)
    exact ⟨(HB1'.out.grown hB5 (by omega) (by intro j hj; simp at hj; omega)).alloc (by omega) _, .inr ⟨fun h => HF.out ⟨h.1, h.2.1⟩, rfl⟩⟩
end Go.Proofs.Ytbeekbkambkgoaa
/-
  heldValueS and heldValue of the laws: they find the running numbers in values that were marked.
-/
namespace Go.Proofs.Ytbeekbkambkgoaa
open Go.RowKit
set_option linter.unusedVariables false
set_option linter.unusedSimpArgs false

theorem mkLs_at {α : Type} (f : α → Nat → α) (c : α → Nat) : ∀ (l : List α) (k i : Nat) (h : i < l.length), (mkLs f c l k)[i]'(by rw [length_mkLs]; exact h) = f l[i] (k + pre c l i)
  | [], _, _, h => by simp at h
  | x :: r, k, 0, _ => by simp [mkLs, pre]
  | x :: r, k, i + 1, h => by
    have ih := mkLs_at f c r (k + c x) i (by simpa using h)
    have e : pre c (x :: r) (i + 1) = c x + pre c r i := by simp [pre]
    simp only [mkLs, List.getElem_cons_succ]
    rw [ih, e, Nat.add_assoc]

theorem LSeg.num {R : Nat → Prop} {w : World} {d : Nat} {a : Option Addr} {n cap : Nat} {l : List (Vl d)} (h : LSeg R w d (.slice a n cap) l) {k : Nat} (hk : k < l.length) :
    ∃ b off c0 c1 c2 c3 c4, a = some ⟨b, off, none⟩ ∧ R b ∧ Five w b (off + k * 5) (c0, c1, c2, c3, c4) ∧ VSeg R w d (c0, c1, c2, c3, c4) (l[k]) := by
  obtain ⟨a', cap', g1, _, _, _, g5⟩ := h
  simp only [Value.slice.injEq] at g1
  obtain ⟨rfl, _, _⟩ := g1
  rcases g5 with e | ⟨b, off, hb, hR, hc⟩
  · rw [e] at hk; simp at hk
  · obtain ⟨⟨c0, c1, c2, c3, c4⟩, he, hv⟩ := hc k hk
    exact ⟨b, off, c0, c1, c2, c3, c4, hb, hR, he, hv⟩

/-- The contract of heldValueS at depth d. -/
def HdAt (d : Nat) : Prop := ∀ (N : Nat) (x : Value) (l : List (Vl d)) (m : Nat) (w : World), LSeg (fun b => b < N) w d x (mkLs (mkE d) (cE d) l m) → N ≤ w.heap.size → szL d l ≤ 1048576 → m + (l.map (cE d)).sum ≤ 1125899906842624 →
  Calls Try.prog 36 #[x, .int .i64 m] w fun e w' => e = .returned (.int .i64 ((m + (l.map (cE d)).sum : Nat) : Int)) ∧ Below w.heap.size w w'

theorem keep5 {w wx : World} {N b o : Nat} {c : Value × Value × Value × Value × Value} (hb : b < N) (h : Below N w wx) (h5 : Five w b o c) : Five wx b o c := h5.agree (agree_below h) hb

set_option maxHeartbeats 6400000 in
theorem heldValueS_succ (d : Nat) (ih : HdAt d) : HdAt (d + 1) := by
  intro N x l m w h hN hs hm
  have H0 := hide' h
  obtain ⟨a, c, rfl, _⟩ := h
  rw [length_mkLs] at H0 ⊢
  have hsl : szL (d + 1) l = l.length + (l.map (szV (d + 1))).sum := rfl
  have HP : Hid (∀ k (hk : k < l.length), pre (cE (d + 1)) l (k + 1) = pre (cE (d + 1)) l k + cE (d + 1) l[k]) := fun k hk => pre_succ (cE (d + 1)) l k hk
  have HL : Hid (∀ k, pre (cE (d + 1)) l k ≤ (l.map (cE (d + 1))).sum) := pre_le (cE (d + 1)) l
  have HA : Hid (pre (cE (d + 1)) l l.length = (l.map (cE (d + 1))).sum) := pre_all _ _
  have HZ : Hid (∀ k (hk : k < l.length), szV (d + 1) l[k] ≤ 1048576) := fun k hk => Nat.le_trans (sz_elem hk) hs
  have HI := hide' ih
  have hn : l.length ≤ 1048576 := by omega
  generalize hS : (l.map (cE (d + 1))).sum = S at *
  clear hs hsl ih hS
  go_enter Try.func36, Try.ntmps36
  go_wp2
  go_loopw [1, 5] (fun m' i wr => ∃ k : Nat, k ≤ l.length ∧ i = .int .i64 k ∧ m' = .int .i64 ((m + pre (cE (d + 1)) l k : Nat) : Int) ∧ Below w.heap.size w wr) (fun _ i _ => l.length - (intOf i).toNat)
  case atStart => exact ⟨0, Nat.zero_le _, rfl, by rw [pre_zero]; simp, Below.refl _ _⟩
  case round =>
    obtain ⟨k, hk, rfl, rfl, hbel⟩ := hrel
    have hpk := HL.out k
    have hsz := hbel.size
    by_cases hlt : k < l.length
    · have hlt' : (k : Int) < (l.length : Int) := by omega
      have hps := HP.out k hlt
      have hpk1 := HL.out (k + 1)
      have hz := HZ.out k hlt
      obtain ⟨b, off, c0, c1, c2, c3, c4, rfl, hb, h5, hv⟩ := (H0.out.agree (agree_below (hbel.mono hN))).num (k := k) (by rw [length_mkLs]; exact hlt)
      rw [mkLs_at (mkE (d + 1)) (cE (d + 1)) l m k hlt] at hv
      have hlk : ∃ (vk vn : Int) (vS : List Int) (vK : List (List Int)) (vL : List (Vl d)), l[k] = (vk, vn, vS, vK, vL) := ⟨_, _, _, _, _, rfl⟩
      obtain ⟨vk, vn, vS, vK, vL, hlk⟩ := hlk
      rw [hlk] at hv hz hps
      generalize hq : pre (cE (d + 1)) l k = q at *
      have hz' : szV (d + 1) (vk, vn, vS, vK, vL) = vS.length + szK vK + szL d vL := rfl
      have hc' : cE (d + 1) (vk, vn, vS, vK, vL) = 2 + (vS.length + ((vK.map List.length).sum + (vL.map (cE d)).sum)) := rfl
      have hkz : szK vK = vK.length + (vK.map List.length).sum := rfl
      obtain ⟨e0, e1, htt, hkk, hll⟩ := (VSeg_succ _ _ _ _ _).1 hv
      have e0' : c0 = .int .i64 ((m : Int) + q) := by have h := e0; simpa [mkE] using h
      have e1' : c1 = .int .i64 ((m : Int) + q + 1) := by have h := e1; simpa [mkE] using h
      subst e0'
      subst e1'
      have htt' : TSeg (fun b => b < N) wr c2 (marks (m + q + 2) vS.length) := htt
      have hkk' : KSeg (fun b => b < N) wr c3 (mkKs vK (m + q + 2 + vS.length)) := hkk
      have hll' : LSeg (fun b => b < N) wr d c4 (mkLs (mkE d) (cE d) vL (m + q + 2 + vS.length + (vK.map List.length).sum)) := hll
      have h5F : Hid (∀ wx, Below wr.heap.size wr wx → Five wx b (off + k * 5) (.int .i64 ((m : Int) + q), .int .i64 ((m : Int) + q + 1), c2, c3, c4)) := fun wx hx => keep5 hb (hx.mono (by omega)) h5
      obtain ⟨sa, sc, rfl, hseg, _⟩ := htt'
      rw [length_marks] at h5 h5F
      have hkf : ∃ ka kc, c3 = .slice ka vK.length kc := by
        obtain ⟨ka, kc, e, _⟩ := hkk'
        exact ⟨ka, kc, by rw [e, length_mkKs]⟩
      obtain ⟨ka, kc, rfl⟩ := hkf
      have hlf : ∃ la lc, c4 = .slice la vL.length lc := by
        obtain ⟨la, lc, e, _⟩ := hll'
        exact ⟨la, lc, by rw [e, length_mkLs]⟩
      obtain ⟨la, lc, rfl⟩ := hlf
      have HM1 : Hid (Calls Try.prog 35 #[.slice sa vS.length sc, .int .i64 ((m : Int) + q + 1 + 1)] wr fun e w' => e = .returned (.int .i64 ((m : Int) + q + 1 + 1 + vS.length)) ∧ w'.cell? ⟨b, off + k * 5 + 3, none⟩ = some (.slice ka vK.length kc) ∧ Hid (Below wr.heap.size wr w')) := by
        refine arg_eq (x := ((m + q + 2 : Nat) : Int)) (by push_cast; omega) ((heldByteS_any sa sc (m + q + 2) vS.length wr hseg (by omega) (by omega)).mono ?_)
        rintro e w' ⟨rfl, hb'⟩
        exact ⟨ret_i64 (by push_cast; omega), (h5F.out w' hb').2.2.2.1, hb'⟩
      have HM2 : Hid (∀ w1, Hid (Below wr.heap.size wr w1) → Calls Try.prog 22 #[.slice ka vK.length kc, .int .i64 ((m : Int) + q + 1 + 1 + vS.length)] w1 fun e w' => e = .returned (.int .i64 ((m : Int) + q + 1 + 1 + vS.length + ((vK.map List.length).sum : Nat))) ∧ w'.cell? ⟨b, off + k * 5 + 4, none⟩ = some (.slice la vL.length lc) ∧ Hid (Below wr.heap.size wr w')) := by
        intro w1 h1
        refine arg_eq (x := ((m + q + 2 + vS.length : Nat) : Int)) (by push_cast; omega) ((heldByteSS_any N _ vK (m + q + 2 + vS.length) w1 (hkk'.agree (agree_below (h1.out.mono (by omega)))) (by have := h1.out.size; omega) (by omega) (by omega)).mono ?_)
        rintro e w' ⟨rfl, hb'⟩
        have hb2 := Below.on h1.out hb'
        exact ⟨ret_i64 (by push_cast; omega), (h5F.out w' hb2).2.2.2.2, hb2⟩
      have HM3 : Hid (∀ w1, Hid (Below wr.heap.size wr w1) → Calls Try.prog 36 #[.slice la vL.length lc, .int .i64 ((m : Int) + q + 1 + 1 + vS.length + ((vK.map List.length).sum : Nat))] w1 fun e w' => e = .returned (.int .i64 ((m : Int) + q + 1 + 1 + vS.length + ((vK.map List.length).sum : Nat) + ((vL.map (cE d)).sum : Nat))) ∧ Hid (Below w.heap.size w w')) := by
        intro w1 h1
        refine arg_eq (x := ((m + q + 2 + vS.length + (vK.map List.length).sum : Nat) : Int)) (by push_cast; omega) ((HI.out N _ vL (m + q + 2 + vS.length + (vK.map List.length).sum) w1 (hll'.agree (agree_below (h1.out.mono (by omega)))) (by have := h1.out.size; omega) (by omega) (by omega)).mono ?_)
        rintro e w' ⟨rfl, hb'⟩
        exact ⟨ret_i64 (by push_cast; omega), Below.on hbel (Below.on h1.out hb')⟩
      have hcE : m + q + 1 + 1 + vS.length + (vK.map List.length).sum + (vL.map (cE d)).sum ≤ 1125899906842624 := by omega
      have Hps : Hid (m + pre (cE (d + 1)) l (k + 1) = m + q + 1 + 1 + vS.length + (vK.map List.length).sum + (vL.map (cE d)).sum) := by show m + pre (cE (d + 1)) l (k + 1) = _; omega
      obtain ⟨y0, y1, y2, y3, y4⟩ := h5
      simp only at y0 y1 y2 y3 y4
      clear hv htt hkk hll hkk' hll' hseg h5F hps hlk hq HP HL HA HZ H0 HI hz hz' hc' hkz e0 e1 hpk1 hpk
      generalize (vK.map List.length).sum = nK at *
      generalize (vL.map (cE d)).sum = nL at *
      generalize vS.length = nS at *
      generalize vK.length = kK at *
      generalize vL.length = kL at *
      go_wp2_with fail
      refine HM1.out.mono ?_
      rintro e w1 ⟨rfl, z3, hS1⟩
      have HM2' := hide' (HM2.out w1 hS1)
      clear y0 y1 y2 y3 y4 HM1 HM2
      go_wp2_with fail
      refine HM2'.out.mono ?_
      rintro e w2 ⟨rfl, z4, hS2⟩
      have HM3' := hide' (HM3.out w2 hS2)
      clear z3 hS1 HM2' HM3
      go_wp2_with fail
      refine HM3'.out.mono ?_
      rintro e w3 ⟨rfl, hB3⟩
      clear z4 hS2 HM3'
      go_wp2
      go_roundw
      case rel => exact ⟨k + 1, by omega, by go_num, by rw [Hps.out]; go_num, hB3.out⟩
      case measure => simp [intOf]; omega
    · have hkn : k = l.length := by omega
      have hkn' : ¬ (k : Int) < (l.length : Int) := by omega
      have HQ : Hid (pre (cE (d + 1)) l k = S) := by show pre (cE (d + 1)) l k = _; rw [hkn]; exact HA.out
      clear hkn
      go_wp2
      go_ret
      exact ⟨ret_i64 (by rw [HQ.out]), hbel⟩

set_option maxHeartbeats 1600000 in
theorem heldValueS_zero : HdAt 0 := by
  intro N x l m w h hN hs hm
  have hl : l = [] := by
    cases l with
    | nil => rfl
    | cons y r => exact nomatch y
  subst hl
  obtain ⟨a, c, rfl, _⟩ := h
  go_enter Try.func36, Try.ntmps36
  go_wp2
  go_loopw [1, 5] (fun m' i wr => i = .int .i64 0 ∧ m' = .int .i64 m ∧ wr = w) (fun _ i _ => 0)
  case atStart => exact ⟨rfl, rfl, rfl⟩
  case round =>
    obtain ⟨rfl, rfl, rfl⟩ := hrel
    go_wp2
    go_ret
    exact ⟨ret_i64 (by simp), Below.refl _ _⟩

theorem heldValueS_any (d : Nat) : HdAt d := by
  induction d with
  | zero => exact heldValueS_zero
  | succ d ih => exact heldValueS_succ d ih
end Go.Proofs.Ytbeekbkambkgoaa
/-
  heldValue: what markValue has written is found.
-/
namespace Go.Proofs.Ytbeekbkambkgoaa
open Go.RowKit
set_option linter.unusedVariables false
set_option linter.unusedSimpArgs false

set_option maxHeartbeats 3200000 in
theorem heldValue_any (d N : Nat) (c0 c1 c2 c3 c4 : Value) (v : Vl (d + 1)) (m : Nat) (w : World) (h : VSeg (fun b => b < N) w (d + 1) (c0, c1, c2, c3, c4) (mkV d v m)) (hN : N ≤ w.heap.size) (hs : szV (d + 1) v ≤ 1048576) (hm : m + cV d v ≤ 1125899906842624) :
    Calls Try.prog 15 #[.agg #[c0, c1, c2, c3, c4], .int .i64 m] w fun e w' => e = .returned (.int .i64 ((m + cV d v : Nat) : Int)) ∧ Below w.heap.size w w' := by
  obtain ⟨vk, vn, vS, vK, vL⟩ := v
  have hz' : szV (d + 1) (vk, vn, vS, vK, vL) = szT vS + szK vK + szL d vL := rfl
  have hT' : szT vS = vS.length := rfl
  have hc' : cV d (vk, vn, vS, vK, vL) = vS.length + (vK.map List.length).sum + (vL.map (cE d)).sum := rfl
  obtain ⟨e0, e1, hT, hK, hL⟩ := h
  simp only [mkV] at e0 e1 hT hK hL
  have hL' : LSeg (fun b => b < N) w d c4 (mkLs (mkE d) (cE d) vL (m + vS.length + (vK.map List.length).sum)) := hL
  obtain ⟨sa, sc, e2, hSg, _, _, _, hR⟩ := hT
  rw [length_marks] at e2
  subst e2
  have hkf : ∃ ka kn kc, c3 = .slice ka kn kc := by obtain ⟨a, c, e, _⟩ := hK; exact ⟨_, _, _, e⟩
  obtain ⟨ka, kn, kc, rfl⟩ := hkf
  have hlf : ∃ la ln lc, c4 = .slice la ln lc := by obtain ⟨a, c, e, _⟩ := hL; exact ⟨_, _, _, e⟩
  obtain ⟨la, ln, lc, rfl⟩ := hlf
  have hal : ∀ o : Obj, Below w.heap.size w (w.alloc o) := fun o => (Below.refl _ _).alloc (Nat.le_refl _) o
  have Hal := hide' hal
  have Hbox : Hid (∀ o wx, Below (w.alloc o).heap.size (w.alloc o) wx → wx.heap[w.heap.size]? = some o) := fun o wx h => (h.block w.heap.size (by simp)).trans (MapKept.heap_alloc w o).1
  have H1 : Hid (∀ wx, Below w.heap.size w wx → Calls Try.prog 35 #[.slice sa vS.length sc, .int .i64 m] wx fun e w' => e = .returned (.int .i64 ((m : Int) + vS.length)) ∧ Below wx.heap.size wx w') := by
    intro wx hb
    refine (heldByteS_any sa sc m vS.length wx (hSg.below hb fun x hx hne => Nat.lt_of_lt_of_le (hR x hx hne) hN) (by omega) (by omega)).mono ?_
    rintro e w' ⟨rfl, h⟩
    exact ⟨ret_i64 (by push_cast; rfl), h⟩
  have H2 : Hid (∀ wx, Below w.heap.size w wx → Calls Try.prog 22 #[.slice ka kn kc, .int .i64 ((m : Int) + vS.length)] wx fun e w' => e = .returned (.int .i64 ((m : Int) + vS.length + (vK.map List.length).sum)) ∧ Below wx.heap.size wx w') := by
    intro wx hb
    refine arg_eq (x := ((m + vS.length : Nat) : Int)) (by push_cast; rfl) ((heldByteSS_any N _ vK (m + vS.length) wx (hK.agree (agree_below (hb.mono hN))) (by have := hb.size; omega) (by omega) (by omega)).mono ?_)
    rintro e w' ⟨rfl, h⟩
    exact ⟨ret_i64 (by push_cast; rfl), h⟩
  have H3 : Hid (∀ wx, Below w.heap.size w wx → Calls Try.prog 36 #[.slice la ln lc, .int .i64 ((m : Int) + vS.length + (vK.map List.length).sum)] wx fun e w' => e = .returned (.int .i64 ((m : Int) + vS.length + (vK.map List.length).sum + (vL.map (cE d)).sum)) ∧ Below wx.heap.size wx w') := by
    intro wx hb
    refine arg_eq (x := ((m + vS.length + (vK.map List.length).sum : Nat) : Int)) (by push_cast; rfl) ((heldValueS_any d N _ vL (m + vS.length + (vK.map List.length).sum) wx (hL'.agree (agree_below (hb.mono hN))) (by have := hb.size; omega) (by omega) (by omega)).mono ?_)
    rintro e w' ⟨rfl, h⟩
    exact ⟨ret_i64 (by push_cast; rfl), h⟩
  have HO : Hid (m + cV d (vk, vn, vS, vK, vL) = m + vS.length + (vK.map List.length).sum + (vL.map (cE d)).sum) := by show m + cV d (vk, vn, vS, vK, vL) = _; omega
  generalize cV d (vk, vn, vS, vK, vL) = tot at *
  clear hSg hR hK hL hL' hal hz' hT' hc' hs
  generalize (vK.map List.length).sum = nK at *
  generalize (vL.map (cE d)).sum = nL at *
  generalize vS.length = nS at *
  have hbig : m + nS + nK + nL ≤ 1125899906842624 := by have := HO.out; omega
  go_enter Try.func15, Try.ntmps15
  go_wp2_with fail
  refine (H1.out _ (Hal.out _)).mono ?_
  rintro e w1 ⟨rfl, b1⟩
  obtain ⟨_, _, _, y3, y4, _⟩ := row5 (Hbox.out _ _ b1)
  have h2 := hide' (H2.out _ (Below.on (Hal.out _) b1))
  have Hb1 := hide' b1
  clear b1 H1
  go_wp2_with fail
  refine h2.out.mono ?_
  rintro e w2 ⟨rfl, b2⟩
  have b12 := Below.on Hb1.out b2
  clear y3 y4
  obtain ⟨_, _, _, y3, y4, _⟩ := row5 (Hbox.out _ _ b12)
  have h3 := hide' (H3.out _ (Below.on (Hal.out _) b12))
  have Hb2 := hide' b12
  clear b12 b2 H2 h2 Hb1
  go_wp2_with fail
  refine h3.out.mono ?_
  rintro e w3 ⟨rfl, b3⟩
  have B3 := hide' (Below.on (Hal.out _) (Below.on Hb2.out b3))
  clear b3
  go_wp2
  go_ret
  exact ⟨by rw [HO.out]; push_cast; rfl, B3.out⟩
end Go.Proofs.Ytbeekbkambkgoaa
