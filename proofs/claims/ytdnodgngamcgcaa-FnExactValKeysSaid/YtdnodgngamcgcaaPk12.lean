/-
  Texts that a law leans on, one behind the other; no statement is proved here.
-/
import Derived.Test.YtdnodgngamcgcaaPk10
import Derived.Test.YtdnodgngamcgcaaPk0
import Derived.Test.YtdnodgngamcgcaaPk1
/-
  ValGet of the program: the walk.
-/
namespace Go.Proofs.Ytdnodgngamcgcaa
open Go.RowKit Go.Shelf
set_option linter.unusedVariables false
set_option linter.unusedSimpArgs false

set_option maxHeartbeats 3200000 in
set_option maxRecDepth 100000 in
theorem impl_ValGet_any (d N : Nat) (c0 c1 c2 c3 c4 : Value) (v : Vl (d + 1)) (ka : Option Addr) (kc : Nat) (key : List Int) (w : World) (hv : VSeg (fun b => b < N) w (d + 1) (c0, c1, c2, c3, c4) v) (hN : N ≤ w.heap.size) (hS : Seg w ka key) (hSb : ∀ x, ka = some x → key ≠ [] → x.block < w.heap.size) (hkl : key.length ≤ maxLen) :
    Calls Try.prog 10 #[.agg #[c0, c1, c2, c3, c4], .slice ka key.length kc] w (GetEnd d v key w) := by
  have HA : Hid (∀ o o' : Obj, Below w.heap.size w ((w.alloc o).alloc o') ∧ ((w.alloc o).alloc o').heap[w.heap.size + 1]? = some o') := fun o o' => ⟨((Below.refl _ _).alloc (Nat.le_refl _) o).alloc (by simp) o', by have := (MapKept.heap_alloc (w.alloc o) o').1; simpa using this⟩
  have HP : Hid (∀ o o' : Obj, Calls Try.prog 31 #[.agg #[c0, c1, c2, c3, c4]] ((w.alloc o).alloc o') (MapOf (d + 1) v ((w.alloc o).alloc o'))) := fun o o' => mapOf_any (d + 1) N c0 c1 c2 c3 c4 v _ (VSeg.agree (fun b (h : b < N) => (HA.out o o').1.block b (by omega)) (d + 1) hv) (by simp; omega)
  have HSg : Hid (∀ wx, Below w.heap.size w wx → Seg wx ka key) := fun wx hb => hS.below hb hSb
  have HByt : Hid (∀ y ∈ key, Byt y) := hS.1
  clear hv hS hSb
  go_enter Try.func10, Try.ntmps10
  go_wp2_with fail
  refine (HP.out _ _).mono ?_
  rintro e w1 ⟨b1, ⟨b, rfl, hok, hk, hp⟩ | ⟨rfl, hno⟩⟩
  · have hR1 : w1.heap[w.heap.size + 1]? = some (.cells #[.int .i64 0, .int .i64 0, .slice none 0 0, .slice none 0 0, .slice none 0 0] 30 (0, 0)) := (b1.block _ (by simp)).trans (HA.out _ _).2
    have hlt : w.heap.size + 1 < w1.heap.size := (Array.getElem?_eq_some_iff.1 hR1).1
    have hB1 := Below.on (HA.out _ _).1 b1
    have HBM : Hid (∀ o, Below w.heap.size w (w1.alloc o)) := fun o => hB1.alloc hB1.size o
    have HB1' := hide' hB1
    have hk5 : v.1 = 5 := hk
    obtain ⟨hbR, ps, hm, hc⟩ := mapPart_inv hp hk5
    have hok' := hok
    simp only [okB, Bool.and_eq_true, decide_eq_true_eq] at hok'
    obtain ⟨vk, vn, vs, vK, vL⟩ := v
    simp only at hk5 hm hc
    subst hk5
    obtain ⟨_, hsh, hgk⟩ := (good_succ _ _ _ _ _ _ _).1 hok'.1
    have hkid := parts_kid hok'.2
    obtain ⟨hKL, hasc⟩ := shape_mapB hsh
    have hst : ∀ i, i < vL.length → stepB vK i = true := by
      intro i hi
      rw [ascB, List.all_eq_true] at hasc
      exact hasc i (List.mem_range.2 (by omega))
    have hcv : ∀ o, (convert 22 9 (.slice ka key.length kc)).run Try.prog (w1.alloc o) = .ok (.string (strOf key)) (w1.alloc o) := fun o => conv_seg kc (HSg.out _ (HBM.out o))
    have HR1 := hide' hR1
    obtain ⟨k, hkK, hke, hkn, hfk⟩ | ⟨hnone, hfk⟩ := find_cases vK key
    · have hlk : ∀ o, (Instr.lookup 50 (.map (some b)) (.string (strOf key)) true).run Try.prog (w1.alloc o) = .ok (.tuple #[ps.getD k .nilIface, .bool true]) (w1.alloc o) := fun o => look_at (hm.alloc o) hst (fun i hi => (step_name (hst i hi)).1) HByt.out hkl (by omega) hkn hke
      have hkL : k < vL.length := by omega
      obtain ⟨pt, px, hpx⟩ := (hc k hkL).shape
      have hck := hc k hkL
      rw [hpx] at hlk hck
      have HV : Hid (∀ o, Calls Try.prog 32 #[.iface pt px] (w1.alloc o) (ValEnd d (vL[k]'hkL) (w1.alloc o))) := fun o => valueOf_any d w1.heap.size _ _ (1 + 1) _ (PSeg.carry (fun b' h => h.2) (fun b' h => Below.heap_alloc w1 o b' h.2) d hck) (by simp) (hgk k hkL) (hkid k hkL)
      have HF := hide' (And.intro hok (And.intro hfk hKL))
      clear hp hm hc hsh hgk hkid hasc hst hR1 hB1 b1 hok hok' hck hkn hke hfk HP
      generalize hsx : strOf key = sx at *
      go_wp2_with fail
      refine (HV.out _).mono ?_
      rintro e w2 ⟨u0, u1, u2, u3, u4, rfl, B, hO, hB, hb2⟩
      obtain ⟨uk, un, s2, n2, r2, s3, n3, r3, s4, n4, r4, rfl, rfl, rfl, rfl, rfl⟩ := VOwn.form d hO
      have hR2 : w2.heap[w.heap.size + 1]? = some (.cells #[.int .i64 0, .int .i64 0, .slice none 0 0, .slice none 0 0, .slice none 0 0] 30 (0, 0)) := (hb2.block _ (by simp; omega)).trans ((Below.heap_alloc _ _ _ hlt).trans HR1.out)
      obtain ⟨r0', r1', r2', r3', r4', rf⟩ := row5 hR2
      have f0 := rf 0
      have f1 := rf 1
      have f2 := rf 2
      have f3 := rf 3
      have f4 := rf 4
      have hz2 := hb2.size
      simp at hz2
      have hBf := Below.on (HBM.out _) hb2
      have HR2 := hide' hR2
      have HO := hide' hO
      have HB := hide' hB
      have HBf := hide' hBf
      clear rf hR2 hO hB hBf hb2 HV
      go_wp2_with fail
      have hrow := set5_heap (j := 0) (.int .i64 uk) (.int .i64 un) (.slice s2 n2 r2) (.slice s3 n3 r3) (.slice s4 n4 r4) HR2.out
      have hfin := row5 hrow
      simp only [set5, Nat.zero_add] at hfin
      obtain ⟨y0, y1, y2, y3, y4, _⟩ := hfin
      refine bodyPost_ret (v := .tuple #[.agg #[.int .i64 uk, .int .i64 un, .slice s2 n2 r2, .slice s3 n3 r3, .slice s4 n4 r4], .bool true]) (by simp [results, Try.results10, go_sem, y0, y1, y2, y3, y4]) rfl ?_
      have hB5 := set5_grown w2 (w.heap.size + 1) 0 (.int .i64 uk) (.int .i64 un) (.slice s2 n2 r2) (.slice s3 n3 r3) (.slice s4 n4 r4)
      have hsz4 := set5_size w2 (w.heap.size + 1) 0 (.int .i64 uk) (.int .i64 un) (.slice s2 n2 r2) (.slice s3 n3 r3) (.slice s4 n4 r4)
      have hbd : ∀ b ∈ B, w1.heap.size + 1 ≤ b ∧ b < w2.heap.size := fun b hb => by have := HB.out b hb; simp at this; exact this
      refine ⟨HBf.out.grown hB5 (by omega) (by intro j hj; simp at hj; omega), .inl ⟨k, hkL, HF.out.1, rfl, HF.out.2.1, _, _, _, _, _, rfl, B, ?_, fun b hb => ?_⟩⟩
      · exact VOwn.agree d HO.out fun b hb => hB5.block b (hbd b hb).2 (by have := hbd b hb; simp; omega)
      · have := hbd b hb
        show w.heap.size ≤ b ∧ b < (set5 _ _ _ _ _ _ _ _).heap.size
        omega
    · have hlk : ∀ o, (Instr.lookup 50 (.map (some b)) (.string (strOf key)) true).run Try.prog (w1.alloc o) = .ok (.tuple #[.nilIface, .bool false]) (w1.alloc o) := fun o => look_none (hm.alloc o) hst (fun i hi => (step_name (hst i hi)).1) HByt.out hkl (fun i hi => hnone i (by omega))
      have HF := hide' hfk
      clear hp hm hc hsh hgk hkid hasc hst hR1 hB1 b1 hok hok' hnone hfk HP
      generalize hsx : strOf key = sx at *
      obtain ⟨r0, r1, r2, r3, r4, rf⟩ := row5 HR1.out
      have f0 := rf 0
      have f1 := rf 1
      have f2 := rf 2
      have f3 := rf 3
      have f4 := rf 4
      obtain ⟨s0, s1, s2, s3, s4, sf⟩ := box_later HR1.out
      clear rf
      go_wp2_with fail
      have hfin := box_later (set5_heap (j := 0) (.int .i64 0) (.int .i64 0) (.slice none 0 0) (.slice none 0 0) (.slice none 0 0) HR1.out)
      simp only [set5, Nat.zero_add] at hfin
      obtain ⟨y0, y1, y2, y3, y4, _⟩ := hfin
      refine bodyPost_ret (v := .tuple #[.agg #[.int .i64 0, .int .i64 0, .slice none 0 0, .slice none 0 0, .slice none 0 0], .bool false]) (by simp [results, Try.results10, go_sem, y0, y1, y2, y3, y4]) rfl ?_
      have hB5 := set5_grown w1 (w.heap.size + 1) 0 (.int .i64 0) (.int .i64 0) (.slice none 0 0) (.slice none 0 0) (.slice none 0 0)
      have hsz4 := set5_size w1 (w.heap.size + 1) 0 (.int .i64 0) (.int .i64 0) (.slice none 0 0) (.slice none 0 0) (.slice none 0 0)
      exact ⟨(HB1'.out.grown hB5 (by omega) (by intro j hj; simp at hj; omega)).alloc (by omega) _, .inr ⟨fun h => by have h3 := h.2.2; simp only at h3; rw [HF.out] at h3; omega, rfl⟩⟩
  · have hR1 : w1.heap[w.heap.size + 1]? = some (.cells #[.int .i64 0, .int .i64 0, .slice none 0 0, .slice none 0 0, .slice none 0 0] 30 (0, 0)) := (b1.block _ (by simp)).trans (HA.out _ _).2
    have hlt : w.heap.size + 1 < w1.heap.size := (Array.getElem?_eq_some_iff.1 hR1).1
    have hB1 := Below.on (HA.out _ _).1 b1
    have HBM : Hid (∀ o, Below w.heap.size w (w1.alloc o)) := fun o => hB1.alloc hB1.size o
    have HB1' := hide' hB1
    have HR1 := hide' hR1
    have HF := hide' hno
    clear hR1 hB1 b1 hno HP
    obtain ⟨r0, r1, r2, r3, r4, rf⟩ := row5 HR1.out
    have f0 := rf 0
    have f1 := rf 1
    have f2 := rf 2
    have f3 := rf 3
    have f4 := rf 4
    obtain ⟨s0, s1, s2, s3, s4, sf⟩ := box_later HR1.out
    clear rf
    go_wp2_with fail
    have hfin := box_later (set5_heap (j := 0) (.int .i64 0) (.int .i64 0) (.slice none 0 0) (.slice none 0 0) (.slice none 0 0) HR1.out)
    simp only [set5, Nat.zero_add] at hfin
    obtain ⟨y0, y1, y2, y3, y4, _⟩ := hfin
    refine bodyPost_ret (v := .tuple #[.agg #[.int .i64 0, .int .i64 0, .slice none 0 0, .slice none 0 0, .slice none 0 0], .bool false]) (by simp [results, Try.results10, go_sem, y0, y1, y2, y3, y4]) rfl ?_
    have hB5 := set5_grown w1 (w.heap.size + 1) 0 (.int .i64 0) (.int .i64 0) (.slice none 0 0) (.slice none 0 0) (.slice none 0 0)
    have hsz4 := set5_size w1 (w.heap.size + 1) 0 (.int .i64 0) (.int .i64 0) (.slice none 0 0) (.slice none 0 0) (.slice none 0 0)
    exact ⟨(HB1'.out.grown hB5 (by omega) (by intro j hj; simp at hj; omega)).alloc (by omega) _, .inr ⟨fun h => HF.out ⟨h.1, h.2.1⟩, rfl⟩⟩
end Go.Proofs.Ytdnodgngamcgcaa
/-
  The laws' own helpers markByteS and heldByteS: the one writes running numbers into a row that is the call's own, the other finds them there.
-/
namespace Go.Proofs.Ytdnodgngamcgcaa
open Go.RowKit
set_option linter.unusedVariables false

/-- The running numbers, as bytes. -/
def marks (m n : Nat) : List Int := (List.range n).map fun i => (((m + i) % 256 : Nat) : Int)

theorem length_marks (m n : Nat) : (marks m n).length = n := by simp [marks]
theorem marks_byt (m n : Nat) : ∀ x ∈ marks m n, Byt x := by
  intro x hx
  simp only [marks, List.mem_map] at hx
  obtain ⟨i, _, rfl⟩ := hx
  unfold Byt
  omega
theorem marks_at (m n k : Nat) (h : k < n) : (marks m n).getD k 0 = (((m + k) % 256 : Nat) : Int) := by simp [marks, h]

/-- What a row holds after k of the marks. -/
def marked (xs : List Int) (m k : Nat) : List Value := cellsOf (marks m k) ++ cellsOf (xs.drop k)
theorem marked_zero (xs : List Int) (m : Nat) : marked xs m 0 = cellsOf xs := by simp [marked, marks, cellsOf]
theorem marked_all (xs : List Int) (m : Nat) : marked xs m xs.length = cellsOf (marks m xs.length) := by simp [marked, cellsOf]
theorem length_marked (xs : List Int) (m k : Nat) (h : k ≤ xs.length) : (marked xs m k).length = xs.length := by simp [marked, marks, cellsOf]; omega
theorem marked_set (xs : List Int) (m k : Nat) (h : k < xs.length) : (marked xs m k).set k (.int .u8 (((m + k) % 256 : Nat) : Int)) = marked xs m (k + 1) := by
  apply List.ext_getElem
  · simp [marked, marks, cellsOf]; omega
  · intro i h1 h2
    simp only [marked, marks, cellsOf, List.getElem_set, List.getElem_append, List.length_map, List.length_range]
    by_cases hik : k = i
    · subst hik
      simp
    · by_cases hlt : i < k
      · have e2 : i < k + 1 := by omega
        simp [hik, hlt, e2]
      · have e2 : ¬ i < k + 1 := by omega
        have e3 : k + 1 + (i - (k + 1)) = k + (i - k) := by omega
        simp [hik, hlt, e2, e3]



set_option maxHeartbeats 400000 in
theorem markByteS_any (base : Nat) (a : Option Addr) (cap : Nat) (xs : List Int) (m : Nat) (w : World) (hB : Bts w base (.slice a xs.length cap) xs) (hl : xs.length ≤ 2097152) (hm : m ≤ 16777216) :
    Calls Try.prog 14 #[.slice a xs.length cap, .int .i64 m] w fun e w' => e = .returned (.int .i64 ((m + xs.length : Nat) : Int)) ∧ Bts w' base (.slice a xs.length cap) (marks m xs.length) ∧ w.grownBy w' (Value.slice a xs.length cap).ownBlock := by
  have hown0 := hB.2
  generalize hn : xs.length = n at hown0
  have Hn : Hid (xs.length = n) := hn
  have hln : n ≤ 2097152 := by omega
  clear hn hl hB
  have hr : ∀ wr : World, ∀ k, k < n → wr.ownsRow base 5 1 (.slice a n cap) n (marked xs m k) → ∃ g, a = some ⟨g, 0, none⟩ := by
    intro wr k hk h
    rcases h.2 with ⟨h1, h2⟩ | ⟨g, cp, cur, h1, _⟩
    · omega
    · simp at h1
      exact ⟨g, h1.1⟩
  have Hr : Hid (∀ wr : World, ∀ k, k < n → wr.ownsRow base 5 1 (.slice a n cap) n (marked xs m k) → ∃ g, a = some ⟨g, 0, none⟩) := hr
  clear hr
  go_enter Try.func14, Try.ntmps14
  go_wp2
  go_loopw [1, 5] (fun m' i wr => ∃ k : Nat, k ≤ n ∧ i = .int .i64 k ∧ m' = .int .i64 ((m + k : Nat) : Int) ∧ wr.ownsRow base 5 1 (.slice a n cap) n (marked xs m k) ∧ w.grownBy wr (Value.slice a n cap).ownBlock) (fun _ i _ => n - (intOf i).toNat)
  case atStart => exact ⟨0, Nat.zero_le _, rfl, by simp, by rw [marked_zero]; exact hown0, World.grownBy.refl _ _⟩
  case round =>
    obtain ⟨k, hk, rfl, rfl, hown1, hbel⟩ := hrel
    by_cases hlt : k < n
    · obtain ⟨g, rfl⟩ := Hr.out wr k hlt hown1
      have hd : ∃ v, wr.cell? ⟨g, k, none⟩ = some v := by
        rw [hown1.cellAt k (by omega)]
        have := length_marked xs m k (by have := Hn.out; omega)
        have h2 := Hn.out
        exact ⟨_, List.getElem?_eq_getElem (by omega)⟩
      obtain ⟨v, hd⟩ := hd
      have hfz := hown1.frozenAt k
      have hst := hown1.stored k (.int .u8 (((m + k) % 256 : Nat) : Int))
      rw [marked_set xs m k (by have := Hn.out; omega)] at hst
      obtain ⟨hst1, hst2⟩ := hst
      have hbel2 := grownBy_trans hbel hst2
      clear hst2 hown1 hbel
      have e : ((((m + k) % 256 : Nat) : Int)) = ((m : Int) + k) % 256 := by omega
      rw [e] at hst1 hbel2
      clear e
      go_wp2
      go_roundw
      case rel => exact ⟨k + 1, by omega, by go_num, by go_num, hst1, hbel2⟩
      case measure => simp [intOf]; omega
    · obtain rfl : k = n := by omega
      have hB : Bts wr base (.slice a k cap) (marks m k) := by
        refine ⟨marks_byt _ _, ?_⟩
        have h2 := Hn.out
        have h3 := marked_all xs m
        rw [h2] at h3
        rw [length_marks, ← h3]
        exact hown1
      go_wp2
      go_ret
      exact ⟨rfl, hB, hbel⟩

set_option maxHeartbeats 400000 in
theorem heldByteS_any (a : Option Addr) (cap : Nat) (m n : Nat) (w : World) (hs : Seg w a (marks m n)) (hl : n ≤ 2097152) (hm : m ≤ 16777216) :
    Calls Try.prog 35 #[.slice a n cap, .int .i64 m] w fun e w' => e = .returned (.int .i64 ((m + n : Nat) : Int)) ∧ Below w.heap.size w w' := by
  go_enter Try.func35, Try.ntmps35
  go_wp2
  go_loopw [1, 5] (fun m' i wr => ∃ k : Nat, k ≤ n ∧ i = .int .i64 k ∧ m' = .int .i64 ((m + k : Nat) : Int) ∧ Below w.heap.size w wr) (fun _ i _ => n - (intOf i).toNat)
  case atStart => exact ⟨0, Nat.zero_le _, rfl, by simp, Below.refl _ _⟩
  case round =>
    obtain ⟨k, hk, rfl, rfl, hbel⟩ := hrel
    by_cases hlt : k < n
    · obtain ⟨b1, o1, rfl, hc1⟩ := (hs.grow hbel).at (k := k) (by rw [length_marks]; omega)
      rw [marks_at m n k hlt] at hc1
      have e : ((((m + k) % 256 : Nat) : Int)) = ((m : Int) + k) % 256 := by omega
      rw [e] at hc1
      clear e
      go_wp2
      go_roundw
      case rel => exact ⟨k + 1, by omega, by go_num, by go_num, hbel⟩
      case measure => simp [intOf]; omega
    · obtain rfl : k = n := by omega
      go_wp2
      go_ret
      exact ⟨rfl, hbel⟩
end Go.Proofs.Ytdnodgngamcgcaa
/-
  markByteS over a row that may bear a mark of the run-time behind its last cell.
-/
namespace Go.Proofs.Ytdnodgngamcgcaa
open Go.RowKit
set_option linter.unusedVariables false

set_option maxHeartbeats 400000 in
theorem markByteS_F (a : Option Addr) (cap : Nat) (xs : List Int) (m : Nat) (w : World) (hB : BtsF w (.slice a xs.length cap) xs) (hl : xs.length ≤ 2097152) (hm : m ≤ 16777216) :
    Calls Try.prog 14 #[.slice a xs.length cap, .int .i64 m] w fun e w' => e = .returned (.int .i64 ((m + xs.length : Nat) : Int)) ∧ BtsF w' (.slice a xs.length cap) (marks m xs.length) ∧ w.grownBy w' (Value.slice a xs.length cap).ownBlock := by
  have hown0 := hB.2
  generalize hn : xs.length = n at hown0
  have Hn : Hid (xs.length = n) := hn
  have hln : n ≤ 2097152 := by omega
  clear hn hl hB
  have hr : ∀ wr : World, ∀ k, k < n → RowF wr (.slice a n cap) n (marked xs m k) → ∃ g, a = some ⟨g, 0, none⟩ := by
    intro wr k hk h
    rcases h.2 with ⟨h1, h2⟩ | ⟨g, cp, cur, fr, h1, _⟩
    · omega
    · simp at h1
      exact ⟨g, h1.1⟩
  have Hr : Hid (∀ wr : World, ∀ k, k < n → RowF wr (.slice a n cap) n (marked xs m k) → ∃ g, a = some ⟨g, 0, none⟩) := hr
  clear hr
  go_enter Try.func14, Try.ntmps14
  go_wp2
  go_loopw [1, 5] (fun m' i wr => ∃ k : Nat, k ≤ n ∧ i = .int .i64 k ∧ m' = .int .i64 ((m + k : Nat) : Int) ∧ RowF wr (.slice a n cap) n (marked xs m k) ∧ w.grownBy wr (Value.slice a n cap).ownBlock) (fun _ i _ => n - (intOf i).toNat)
  case atStart => exact ⟨0, Nat.zero_le _, rfl, by simp, by rw [marked_zero]; exact hown0, World.grownBy.refl _ _⟩
  case round =>
    obtain ⟨k, hk, rfl, rfl, hown1, hbel⟩ := hrel
    by_cases hlt : k < n
    · obtain ⟨g, rfl⟩ := Hr.out wr k hlt hown1
      have hd : ∃ v, wr.cell? ⟨g, k, none⟩ = some v := by
        rw [hown1.cellAt k (by omega)]
        have := length_marked xs m k (by have := Hn.out; omega)
        have h2 := Hn.out
        exact ⟨_, List.getElem?_eq_getElem (by omega)⟩
      obtain ⟨v, hd⟩ := hd
      have hfz := hown1.frozenAt k hlt
      have hst := hown1.stored k (.int .u8 (((m + k) % 256 : Nat) : Int))
      rw [marked_set xs m k (by have := Hn.out; omega)] at hst
      obtain ⟨hst1, hst2⟩ := hst
      have hbel2 := grownBy_trans hbel hst2
      clear hst2 hown1 hbel
      have e : ((((m + k) % 256 : Nat) : Int)) = ((m : Int) + k) % 256 := by omega
      rw [e] at hst1 hbel2
      clear e
      go_wp2
      go_roundw
      case rel => exact ⟨k + 1, by omega, by go_num, by go_num, hst1, hbel2⟩
      case measure => simp [intOf]; omega
    · obtain rfl : k = n := by omega
      have hB : BtsF wr (.slice a k cap) (marks m k) := by
        refine ⟨marks_byt _ _, ?_⟩
        have h2 := Hn.out
        have h3 := marked_all xs m
        rw [h2] at h3
        rw [length_marks, ← h3]
        exact hown1
      go_wp2
      go_ret
      exact ⟨rfl, hB, hbel⟩

end Go.Proofs.Ytdnodgngamcgcaa
/-
  The laws' own helpers markByteSS and heldByteSS: running numbers written into a list of texts of the call's own, and found there.
-/
namespace Go.Proofs.Ytdnodgngamcgcaa
open Go.RowKit
set_option linter.unusedVariables false
set_option linter.unusedSimpArgs false

/-- Nothing has turned but what lies in the blocks B. -/
structure Turned (B : List Nat) (w w' : World) : Prop where
  os : w'.os = w.os
  tape : w'.tape = w.tape
  output : w'.output = w.output
  size : w.heap.size ≤ w'.heap.size
  block : ∀ b, b < w.heap.size → b ∉ B → w'.heap[b]? = w.heap[b]?

theorem Turned.refl (B : List Nat) (w : World) : Turned B w w := ⟨rfl, rfl, rfl, Nat.le_refl _, fun _ _ _ => rfl⟩
theorem Turned.trans {B : List Nat} {w w1 w2 : World} (h : Turned B w w1) (k : Turned B w1 w2) : Turned B w w2 :=
  ⟨k.os.trans h.os, k.tape.trans h.tape, k.output.trans h.output, Nat.le_trans h.size k.size, fun b hb hn => (k.block b (Nat.lt_of_lt_of_le hb h.size) hn).trans (h.block b hb hn)⟩
theorem Turned.mono {B B' : List Nat} {w w' : World} (h : Turned B w w') (hb : ∀ b ∈ B, b ∈ B') : Turned B' w w' := ⟨h.os, h.tape, h.output, h.size, fun b hl hn => h.block b hl fun hm => hn (hb b hm)⟩
theorem Turned.of_grown {w w' : World} {r : Option Nat} {B : List Nat} (h : w.grownBy w' r) (hr : ∀ g, r = some g → g ∈ B) : Turned B w w' :=
  ⟨h.os, h.tape, h.output, h.size, fun b hb hn => h.block b hb fun e => hn (hr b e.symm)⟩
theorem Turned.below {B : List Nat} {N : Nat} {w w1 w2 : World} (h : Below N w w1) (k : Turned B w1 w2) (hN : N ≤ w.heap.size) (hB : ∀ b ∈ B, N ≤ b) : Below N w w2 :=
  ⟨k.os.trans h.os, k.tape.trans h.tape, k.output.trans h.output, Nat.le_trans h.size k.size, fun b hb => (k.block b (by have := h.size; omega) fun hm => by have := hB b hm; omega).trans (h.block b hb)⟩

/-- The texts after they were marked, from k on. -/
def mkKs : List (List Int) → Nat → List (List Int)
  | [], _ => []
  | x :: r, k => marks k x.length :: mkKs r (k + x.length)
theorem length_mkKs : ∀ (l : List (List Int)) (k : Nat), (mkKs l k).length = l.length
  | [], _ => rfl
  | x :: r, k => by simp [mkKs, length_mkKs r]
/-- The first n are marked. -/
def mixK (l : List (List Int)) (k n : Nat) : List (List Int) := mkKs (l.take n) k ++ l.drop n
theorem mixK_zero (l : List (List Int)) (k : Nat) : mixK l k 0 = l := by simp [mixK, mkKs]
theorem mixK_all (l : List (List Int)) (k : Nat) : mixK l k l.length = mkKs l k := by simp [mixK]
theorem length_mixK (l : List (List Int)) (k n : Nat) (h : n ≤ l.length) : (mixK l k n).length = l.length := by simp [mixK, length_mkKs]; omega
theorem mkKs_append : ∀ (l r : List (List Int)) (k : Nat), mkKs (l ++ r) k = mkKs l k ++ mkKs r (k + (l.map List.length).sum)
  | [], r, k => by simp [mkKs]
  | x :: l, r, k => by simp [mkKs, mkKs_append l r, Nat.add_assoc]
theorem mixK_at (l : List (List Int)) (k n : Nat) (h : n < l.length) : (mixK l k n).getD n [] = l.getD n [] := by
  have hl : (mkKs (l.take n) k).length = n := by rw [length_mkKs]; simp; omega
  unfold mixK
  simp only [List.getD_eq_getElem?_getD]
  rw [List.getElem?_append_right (by omega), hl]
  simp
theorem mixK_succ (l : List (List Int)) (k n : Nat) (h : n < l.length) : mixK l k (n + 1) = (mixK l k n).set n (marks (k + pre List.length l n) (l.getD n []).length) := by
  have e : l.getD n [] = l[n] := by simp [List.getD_eq_getElem?_getD, h]
  unfold mixK pre
  rw [e, List.take_succ_eq_append_getElem h, mkKs_append, List.drop_eq_getElem_cons h]
  have hl : (mkKs (l.take n) k).length = n := by rw [length_mkKs]; simp; omega
  rw [List.set_append_right _ _ (by omega), hl, Nat.sub_self, List.set_cons_zero]
  simp only [mkKs, List.append_assoc, List.singleton_append]

theorem disj_flatten {Bs : List (List Nat)} (h : Bs.flatten.Nodup) {i k : Nat} (hi : i < Bs.length) (hk : k < Bs.length) (hne : i ≠ k) {b : Nat} (h1 : b ∈ Bs.getD i []) (h2 : b ∈ Bs.getD k []) : False := by
  have h' : Bs.flatten.Pairwise (· ≠ ·) := h
  rw [List.pairwise_flatten] at h'
  have hp := List.pairwise_iff_getElem.1 h'.2
  have e1 : Bs.getD i [] = Bs[i] := by simp [List.getD_eq_getElem?_getD, hi]
  have e2 : Bs.getD k [] = Bs[k] := by simp [List.getD_eq_getElem?_getD, hk]
  rw [e1] at h1
  rw [e2] at h2
  rcases Nat.lt_or_gt_of_ne hne with hlt | hgt
  · exact hp i k hi hk hlt b h1 b h2 rfl
  · exact hp k i hk hi hgt b h2 b h1 rfl

/-- One text of a list of the call's own is written anew, in its own block. -/
theorem KOwn.turn {w w' : World} {v : Value} {ks : List (List Int)} {B : List Nat} {g cap : Nat} {cur : Array Value} {Bs : List (List Nat)} (hv : v = .slice (some ⟨g, 0, none⟩) ks.length cap) (hh : w.heap[g]? = some (.cells cur 22 (0, 0))) (h3 : ks.length ≤ cap) (h4 : cap ≤ maxLen) (h5 : cur.size = cap) (h6 : Bs.length = ks.length)
    (h7 : ∀ i, i < ks.length → ∃ u, cur[i]? = some u ∧ TOwn w u (ks.getD i []) (Bs.getD i [])) (hB : B = g :: Bs.flatten) (hN : B.Nodup) {k : Nat} (hk : k < ks.length) {u : Value} (hu : cur[k]? = some u) {x' : List Int} (hx : TOwn w' u x' (Bs.getD k [])) (ht : Turned (Bs.getD k []) w w') : KOwn w' v (ks.set k x') B := by
  subst hB
  have hg : g ∉ Bs.flatten := (List.nodup_cons.1 hN).1
  have hgk : g ∉ Bs.getD k [] := fun h => hg (flatten_mem_getD (by omega) h)
  have hgl : g < w.heap.size := (Array.getElem?_eq_some_iff.1 hh).1
  refine .inr ⟨g, cap, cur, Bs, by simpa using hv, (ht.block g hgl hgk).trans hh, by simpa using h3, h4, h5, by simpa using h6, fun i hi => ?_, rfl, hN⟩
  rw [List.length_set] at hi
  by_cases e : i = k
  · subst e
    exact ⟨u, hu, by simpa [List.getD_eq_getElem?_getD, hk] using hx⟩
  · obtain ⟨u', hu', ht'⟩ := h7 i hi
    refine ⟨u', hu', ?_⟩
    have e2 : (ks.set k x').getD i [] = ks.getD i [] := by simp [List.getD_eq_getElem?_getD, List.getElem?_set_ne (fun h => e h.symm)]
    rw [e2]
    refine ht'.agree fun b hb => ht.block b (ht'.lt b hb) fun hm => ?_
    exact disj_flatten (List.nodup_cons.1 hN).2 (by omega : i < Bs.length) (by omega : k < Bs.length) e hb hm

/-- A text of the call's own, marked. -/
theorem TOwn.marked {w w' : World} {a : Option Addr} {c : Nat} {xs : List Int} {B : List Nat} {m : Nat} (h : TOwn w (.slice a xs.length c) xs B) (hb : BtsF w' (.slice a xs.length c) (marks m xs.length)) : TOwn w' (.slice a xs.length c) (marks m xs.length) B := by
  refine ⟨hb, ?_⟩
  rcases h.2 with ⟨h1, h2⟩ | ⟨g, cap, h1, h2⟩
  · exact .inl ⟨h1, h2⟩
  · exact .inr ⟨g, cap, by rw [length_marks]; exact h1, h2⟩

theorem TOwn.turned {w w' : World} {v : Value} {xs : List Int} {B : List Nat} (h : TOwn w v xs B) (hg : w.grownBy w' v.ownBlock) : Turned B w w' := by
  refine Turned.of_grown hg fun g e => ?_
  rcases h.2 with ⟨rfl, _⟩ | ⟨g', cap, rfl, rfl⟩
  · simp [Value.ownBlock] at e
  · simp [Value.ownBlock] at e
    simp [e]

set_option maxHeartbeats 3200000 in
theorem markByteSS_any (v : Value) (ks : List (List Int)) (B : List Nat) (m : Nat) (w : World) (h : KOwn w v ks B) (hs : szK ks ≤ 2097152) (hm : m + (ks.map List.length).sum ≤ 16777216) :
    Calls Try.prog 21 #[v, .int .i64 m] w fun e w' => e = .returned (.int .i64 ((m + (ks.map List.length).sum : Nat) : Int)) ∧ KOwn w' v (mkKs ks m) B ∧ Turned B w w' := by
  have hsz : szK ks = ks.length + (ks.map List.length).sum := rfl
  have hform : ∃ a c, v = .slice a ks.length c := by
    rcases h with ⟨rfl, rfl, _⟩ | ⟨g, cap, cur, Bs, rfl, _⟩
    · exact ⟨none, 0, rfl⟩
    · exact ⟨_, _, rfl⟩
  obtain ⟨a, c, rfl⟩ := hform
  have HP : Hid (∀ k (hk : k < ks.length), pre List.length ks (k + 1) = pre List.length ks k + ks[k].length) := fun k hk => pre_succ List.length ks k hk
  have HL : Hid (∀ k, pre List.length ks k ≤ (ks.map List.length).sum) := pre_le List.length ks
  have HA : Hid (pre List.length ks ks.length = (ks.map List.length).sum) := pre_all _ _
  have H0 := hide' h
  have hn : ks.length ≤ 2097152 := by omega
  have hsum : (ks.map List.length).sum ≤ 2097152 := by omega
  have hmm : m + (ks.map List.length).sum ≤ 16777216 := by omega
  clear h hs hsz hm
  go_enter Try.func21, Try.ntmps21
  go_wp2
  go_loopw [1, 5] (fun m' i wr => ∃ k : Nat, k ≤ ks.length ∧ i = .int .i64 k ∧ m' = .int .i64 ((m + pre List.length ks k : Nat) : Int) ∧ Hid (KOwn wr (.slice a ks.length c) (mixK ks m k) B) ∧ Hid (Turned B w wr)) (fun _ i _ => ks.length - (intOf i).toNat)
  case atStart => exact ⟨0, Nat.zero_le _, rfl, by rw [pre_zero]; simp, by rw [mixK_zero]; exact H0, Turned.refl _ _⟩
  case round =>
    obtain ⟨k, hk, rfl, rfl, hK, hT⟩ := hrel
    have hpk := HL.out k
    by_cases hlt : k < ks.length
    · have hlt' : (k : Int) < (ks.length : Int) := by omega
      have hps := HP.out k hlt
      have hpk1 := HL.out (k + 1)
      have hml := length_mixK ks m k hk
      rcases hK.out with ⟨_, h0, _⟩ | ⟨g, cap, cur, Bs, hv, hh, h3, h4, h5, h6, h7, hB, hN⟩
      · rw [h0] at hml
        simp at hml
        omega
      · obtain ⟨u, hu, htu⟩ := h7 k (by omega)
        have e1 : (mixK ks m k).getD k [] = ks.getD k [] := mixK_at ks m k hlt
        have e2 : ks.getD k [] = ks[k] := by simp [List.getD_eq_getElem?_getD, hlt]
        rw [e1, e2] at htu
        obtain ⟨ua, uc, rfl, _⟩ := htu.1.shape
        have hva : a = some ⟨g, 0, none⟩ := by simp at hv; exact hv.1
        subst hva
        have hcell : wr.cell? ⟨g, k, none⟩ = some (.slice ua ks[k].length uc) := by rw [cell_of_row wr g k cur _ (0, 0) hh]; exact hu
        have HM : Hid (Calls Try.prog 14 #[.slice ua ks[k].length uc, .int .i64 ((m + pre List.length ks k : Nat) : Int)] wr fun e w' => e = .returned (.int .i64 ((m + pre List.length ks k + ks[k].length : Nat) : Int)) ∧ Hid (KOwn w' (.slice (some ⟨g, 0, none⟩) ks.length c) (mixK ks m (k + 1)) B) ∧ Hid (Turned B w w')) := by
          refine (markByteS_F ua uc ks[k] (m + pre List.length ks k) wr htu.1 (by omega) (by omega)).mono ?_
          rintro e w' ⟨rfl, hb, hg⟩
          have ht2 := htu.turned hg
          refine ⟨rfl, ?_, ?_⟩
          · show KOwn w' _ (mixK ks m (k + 1)) B
            rw [mixK_succ ks m k hlt, e2]
            exact KOwn.turn hv hh h3 h4 h5 h6 h7 hB hN (by omega) hu (htu.marked hb) ht2
          · refine hT.out.trans (ht2.mono fun b hb => ?_)
            rw [hB]
            exact List.mem_cons_of_mem _ (flatten_mem_getD (by omega) hb)
        generalize ks[k].length = nk at *
        have Hps := hide' hps
        clear hK hT hh h7 hN htu hu hB hv h6 h5 e1 e2 hps
        generalize pre List.length ks k = q at *
        go_wp2_with fail
        refine HM.out.mono ?_
        rintro e w' ⟨rfl, hK', hT'⟩
        clear hcell HM
        go_wp2
        go_roundw
        case rel => exact ⟨k + 1, by omega, by go_num, by rw [Hps.out]; go_num, hK', hT'⟩
        case measure => simp [intOf]; omega
    · have hkn : k = ks.length := by omega
      have hkn' : ¬ (k : Int) < (ks.length : Int) := by omega
      have HE : Hid (KOwn wr (.slice a ks.length c) (mkKs ks m) B) := by
        show KOwn wr (.slice a ks.length c) (mkKs ks m) B
        have hK2 := hK.out
        rw [hkn, mixK_all] at hK2
        exact hK2
      have HQ : Hid (pre List.length ks k = (ks.map List.length).sum) := by show pre List.length ks k = _; rw [hkn]; exact HA.out
      clear hkn hK
      go_wp2
      go_ret
      exact ⟨ret_i64 (by rw [HQ.out]), HE.out, hT.out⟩
end Go.Proofs.Ytdnodgngamcgcaa
