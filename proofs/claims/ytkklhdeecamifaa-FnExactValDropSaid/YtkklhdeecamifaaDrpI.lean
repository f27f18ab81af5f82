/-
  impl.ValDrop answers as dropA and dropF say, whatever it is handed, on its own memory; no statement is proved here.
-/
import Derived.Test.YtkklhdeecamifaaDrpW
namespace Go.Proofs.Ytkklhdeecamifaa
open Go.RowKit Go.Shelf
set_option linter.unusedVariables false
set_option linter.unusedSimpArgs false

set_option maxHeartbeats 3200000 in
set_option maxRecDepth 100000 in
theorem impl_ValDrop_any (d N : Nat) (c0 c1 c2 c3 c4 : Value) (v : Vl (d + 1)) (ka : Option Addr) (kc : Nat) (key : List Int) (w : World) (hv : VSeg (fun b => b < N) w (d + 1) (c0, c1, c2, c3, c4) v) (hN : N ≤ w.heap.size) (hS : Seg w ka key) (hSb : ∀ x, ka = some x → key ≠ [] → x.block < w.heap.size) (hkl : key.length ≤ maxLen) :
    Calls Try.prog 20 #[.agg #[c0, c1, c2, c3, c4], .slice ka key.length kc] w (Ans d (dropA d v key) (dropF d v key) w) := by
  have HA : Hid (∀ o o' : Obj, Below w.heap.size w ((w.alloc o).alloc o') ∧ ((w.alloc o).alloc o').heap[w.heap.size + 1]? = some o') := fun o o' => ⟨((Below.refl _ _).alloc (Nat.le_refl _) o).alloc (by simp) o', by have := (MapKept.heap_alloc (w.alloc o) o').1; simpa using this⟩
  have HP : Hid (∀ o o' : Obj, Calls Try.prog 31 #[.agg #[c0, c1, c2, c3, c4]] ((w.alloc o).alloc o') (MapOf (d + 1) v ((w.alloc o).alloc o'))) := fun o o' => mapOf_any (d + 1) N c0 c1 c2 c3 c4 v _ (VSeg.agree (fun b (h : b < N) => (HA.out o o').1.block b (by omega)) (d + 1) hv) (by simp; omega)
  have HSg : Hid (∀ wx, Below w.heap.size w wx → Seg wx ka key) := fun wx hb => hS.below hb hSb
  have HByt : Hid (∀ y ∈ key, Byt y) := hS.1
  clear hv hS hSb
  go_enter Try.func20, Try.ntmps20
  go_wp2_with fail
  refine (HP.out _ _).mono ?_
  rintro e w1 ⟨b1, ⟨b, rfl, hok, hk, hp⟩ | ⟨rfl, hno⟩⟩
  · have hR1 : w1.heap[w.heap.size + 1]? = some (.cells #[.int .i64 0, .int .i64 0, .slice none 0 0, .slice none 0 0, .slice none 0 0] 30 (0, 0)) := (b1.block _ (by simp)).trans (HA.out _ _).2
    have hlt : w.heap.size + 1 < w1.heap.size := (Array.getElem?_eq_some_iff.1 hR1).1
    have hB1 := Below.on (HA.out _ _).1 b1
    have HBM : Hid (∀ o, Below w.heap.size w (w1.alloc o)) := fun o => hB1.alloc hB1.size o
    have hk5 : v.1 = 5 := hk
    have hok' := hok
    simp only [okB, Bool.and_eq_true, decide_eq_true_eq] at hok'
    obtain ⟨vk, vn, vs, vK, vL⟩ := v
    simp only at hk5
    subst hk5
    obtain ⟨_, hsh, hgk⟩ := (good_succ _ _ _ _ _ _ _).1 hok'.1
    obtain ⟨hKL, hasc⟩ := shape_mapB hsh
    have hst : ∀ i, i < vL.length → stepB vK i = true := fun i hi => ascB_at hasc (by omega)
    obtain ⟨hbR, ps, hm, _⟩ := mapPart_inv hp rfl
    simp only at hm
    have hbR' : w.heap.size + 2 ≤ b ∧ b < w1.heap.size := by have := hbR; simp at this; exact this
    have hcv : ∀ o, (convert 22 9 (.slice ka key.length kc)).run Try.prog (w1.alloc o) = .ok (.string (strOf key)) (w1.alloc o) := fun o => conv_seg kc (HSg.out _ (HBM.out o))
    have HR1 := hide' hR1
    have hPs : ∀ o, PSeg (fun b => b < w1.heap.size) (w1.alloc o) (d + 1) (.iface 53 (.agg #[.map (some b)])) (5, vn, vs, vK, vL) := fun o => PSeg.carry (fun b' h => h.2) (fun b' h => Below.heap_alloc w1 o b' h.2) (d + 1) hp
    have HMo : Hid (∀ o, (w1.alloc o).ownsMap Try.prog 9 tokR b 64 (mapD vK ps vL.length)) := fun o => hm.alloc o
    have key9 : Hid (Go.keyOf Try.prog 9 (.string (strOf key)) = some (.string (u8s key))) := keyS key hkl
    have hans : ∃ (a : Vl (d + 1)) (bb : Bool), (dropA d (5, vn, vs, vK, vL) key = a ∧ dropF d (5, vn, vs, vK, vL) key = bb) ∧ (∃ pv, ∀ o, (Instr.lookup 51 (.map (some b)) (.string (strOf key)) true).run Try.prog (w1.alloc o) = .ok (.tuple #[pv, .bool bb]) (w1.alloc o)) ∧ ∀ o w2, w2.ownsMap Try.prog 9 tokR b 64 ((mapD vK ps vL.length).del (.string (u8s key))) → (w1.alloc o).mapTurned w2 b → Calls Try.prog 32 #[.iface 53 (.agg #[.map (some b)])] w2 (ValEnd (d + 1) a w2) := by
      obtain ⟨k, hkK, hke, hkn, hfk⟩ | ⟨hnone, hfk⟩ := find_cases vK key
      · refine ⟨dropV d (5, vn, vs, vK, vL) k, true, dropA_yes hok rfl hfk, ⟨ps.getD k .nilIface, fun o => look_at (HMo.out o) hst (fun i hi => (step_name (hst i hi)).1) HByt.out hkl (by omega) hkn hke⟩, fun o w2 h2 ht => ?_⟩
        · exact valueOf_any (d + 1) w2.heap.size _ _ 1 w2 (PSeg.carry (fun c h => by have := ht.grown.size; simp at this; omega) (fun c h => rfl) (d + 1) (drop_pseg (hPs o) hok'.1 ht (fun c h => by simp; omega) (HMo.out o) h2 HByt.out (by omega) hke)) (Nat.le_refl _) (drop_good hok'.1 (by omega)) (Nat.le_trans (drop_parts d (5, vn, vs, vK, vL) k) hok'.2)
      · refine ⟨(5, vn, vs, vK, vL), false, dropA_none hok rfl hfk, ⟨.nilIface, fun o => look_none (HMo.out o) hst (fun i hi => (step_name (hst i hi)).1) HByt.out hkl (fun i hi => hnone i (by omega))⟩, fun o w2 h2 ht => ?_⟩
        · exact valueOf_any (d + 1) w2.heap.size _ _ 1 w2 (PSeg.carry (fun c h => by have := ht.grown.size; simp at this; omega) (fun c h => rfl) (d + 1) (keep_pseg (hPs o) hok'.1 ht (fun c h => by simp; omega) (HMo.out o) h2 HByt.out (fun i hi => hnone i (by omega)))) (Nat.le_refl _) hok'.1 hok'.2
    obtain ⟨a, bb, ⟨ha, hbb⟩, ⟨pv, hlk⟩, hVo⟩ := hans
    have HAe := hide' (And.intro ha hbb)
    have HVo := hide' hVo
    clear hp hm hsh hgk hasc hst hR1 hB1 b1 hok hok' HP hPs hVo ha hbb hKL hbR hk
    generalize hsx : strOf key = sx at *
    generalize hD : mapD vK ps vL.length = D0 at *
    have hc1 : b < w1.heap.size := hbR'.2
    go_wp2_with (at_delete; refine wpList_delete_own _ rfl _ _ 51 9 rfl 57 (Maps.string_keyed Try.underlying9) Try.underlying51 tokR b 64 D0 rfl (HMo.out _) _ _ rfl key9.out ?_; intro w2 hm2 ht2; have hc2 := turned_cell ht2 hc1)
    refine (HVo.out _ w2 hm2 ht2).mono ?_
    rintro e w3 ⟨u0, u1, u2, u3, u4, rfl, B, hO, hB, hb3⟩
    obtain ⟨uk, un, s2, n2, r2, s3, n3, r3, s4, n4, r4, rfl, rfl, rfl, rfl, rfl⟩ := VOwn.form (d + 1) hO
    have hz2 : w1.heap.size + 1 ≤ w2.heap.size := by have h := ht2.grown.size; simpa using h
    have hz3 := hb3.size
    have hR3 : w3.heap[w.heap.size + 1]? = some (.cells #[.int .i64 0, .int .i64 0, .slice none 0 0, .slice none 0 0, .slice none 0 0] 30 (0, 0)) := (hb3.block _ (by omega)).trans ((ht2.grown.block _ (by simp; omega) (by simp; omega)).trans ((Below.heap_alloc _ _ _ hlt).trans HR1.out))
    obtain ⟨r0', r1', r2', r3', r4', rf⟩ := row5 hR3
    have f0 := rf 0
    have f1 := rf 1
    have f2 := rf 2
    have f3 := rf 3
    have f4 := rf 4
    have hB2 : Below w.heap.size w w2 := (HBM.out _).grown ht2.grown (HBM.out _).size (by intro j hj; simp at hj; omega)
    have hBf := Below.on hB2 hb3
    have HR3 := hide' hR3
    have HO := hide' hO
    have HB := hide' hB
    have HBf := hide' hBf
    clear rf hR3 hO hB hBf hb3 hB2 HVo hm2 ht2 hc2 hlk hcv HMo
    go_wp2_with fail
    have hrow := set5_heap (j := 0) (.int .i64 uk) (.int .i64 un) (.slice s2 n2 r2) (.slice s3 n3 r3) (.slice s4 n4 r4) HR3.out
    have hfin := row5 hrow
    simp only [set5, Nat.zero_add] at hfin
    obtain ⟨y0, y1, y2, y3, y4, _⟩ := hfin
    refine bodyPost_ret (v := .tuple #[.agg #[.int .i64 uk, .int .i64 un, .slice s2 n2 r2, .slice s3 n3 r3, .slice s4 n4 r4], .bool bb]) (by simp [results, Try.results20, go_sem, y0, y1, y2, y3, y4]) rfl ?_
    have hB5 := set5_grown w3 (w.heap.size + 1) 0 (.int .i64 uk) (.int .i64 un) (.slice s2 n2 r2) (.slice s3 n3 r3) (.slice s4 n4 r4)
    have hsz4 := set5_size w3 (w.heap.size + 1) 0 (.int .i64 uk) (.int .i64 un) (.slice s2 n2 r2) (.slice s3 n3 r3) (.slice s4 n4 r4)
    rw [HAe.out.1, HAe.out.2]
    refine ⟨_, _, _, _, _, rfl, B, ?_, fun b hb => ?_, HBf.out.grown hB5 (by omega) (by intro j hj; simp at hj; omega)⟩
    · exact VOwn.agree (d + 1) HO.out fun b hb => hB5.block b (HB.out b hb).2 (by have := HB.out b hb; simp; omega)
    · have := HB.out b hb
      show w.heap.size ≤ b ∧ b < (set5 _ _ _ _ _ _ _ _).heap.size
      omega
  · have HF : Hid (¬ (okB (d + 1) v = true ∧ v.1 = 5)) := hno
    have hR1 : w1.heap[w.heap.size + 1]? = some (.cells #[.int .i64 0, .int .i64 0, .slice none 0 0, .slice none 0 0, .slice none 0 0] 30 (0, 0)) := (b1.block _ (by simp)).trans (HA.out _ _).2
    have hlt : w.heap.size + 1 < w1.heap.size := (Array.getElem?_eq_some_iff.1 hR1).1
    have hB1 := Below.on (HA.out _ _).1 b1
    have HBM : Hid (∀ o, Below w.heap.size w (w1.alloc o)) := fun o => hB1.alloc hB1.size o
    have HB1' := hide' hB1
    have HR1 := hide' hR1
    clear hR1 hB1 b1 hno HP
    obtain ⟨r0, r1, r2, r3, r4, rf⟩ := row5 HR1.out
    have f0 := rf 0
    have f1 := rf 1
    have f2 := rf 2
    have f3 := rf 3
    have f4 := rf 4
    obtain ⟨s0, s1, s2, s3, s4, sf⟩ := box_later HR1.out
    clear rf
    go_wp2_with fail
    have hfin := box_later (set5_heap (j := 0) (.int .i64 0) (.int .i64 0) (.slice none 0 0) (.slice none 0 0) (.slice none 0 0) HR1.out)
    simp only [set5, Nat.zero_add] at hfin
    obtain ⟨y0, y1, y2, y3, y4, _⟩ := hfin
    refine bodyPost_ret (v := .tuple #[.agg #[.int .i64 0, .int .i64 0, .slice none 0 0, .slice none 0 0, .slice none 0 0], .bool false]) (by simp [results, Try.results20, go_sem, y0, y1, y2, y3, y4]) rfl ?_
    have hB5 := set5_grown w1 (w.heap.size + 1) 0 (.int .i64 0) (.int .i64 0) (.slice none 0 0) (.slice none 0 0) (.slice none 0 0)
    have hsz4 := set5_size w1 (w.heap.size + 1) 0 (.int .i64 0) (.int .i64 0) (.slice none 0 0) (.slice none 0 0) (.slice none 0 0)
    rw [(dropA_no HF.out).1, (dropA_no HF.out).2]
    exact ⟨_, _, _, _, _, rfl, [], own_vNil d _, by simp, (HB1'.out.grown hB5 (by omega) (by intro j hj; simp at hj; omega)).alloc (by omega) _⟩
end Go.Proofs.Ytkklhdeecamifaa
