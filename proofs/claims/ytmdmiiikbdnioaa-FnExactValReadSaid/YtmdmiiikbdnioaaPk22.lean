/-
  Texts that a law leans on, one behind the other; no statement is proved here.
-/
import Derived.Test.YtmdmiiikbdnioaaPk21
import Derived.Test.YtmdmiiikbdnioaaPk10
import Derived.Maps.OwnSet
/-
  ValBytes of the specification: l2put.
-/
namespace Go.Proofs.Ytmdmiiikbdnioaa
open Go.RowKit
set_option linter.unusedVariables false
set_option linter.unusedSimpArgs false

/-- The contract of l2put at depth d. -/
def SByAt (d : Nat) : Prop := ∀ (N : Nat) (a : Option Addr) (cap : Nat) (xs : List Int) (c : Value × Value × Value × Value × Value) (v : Vl d) (deep : Nat) (w : World), VSeg (fun b => b < N) w d c v → N ≤ w.heap.size → Seg w a xs → (a = none → cap = 0) → goodB d v deep = true → xs.length + 60 * partsV d v ≤ 1000000 →
  Calls Try.prog 14 #[.slice a xs.length cap, .agg #[c.1, c.2.1, c.2.2.1, c.2.2.2.1, c.2.2.2.2]] w fun e w' => ∃ u, e = .returned u ∧ Bts w' w.heap.size u (bytV d v xs) ∧ Below w.heap.size w w'

/-- What a call of PutNum or PutText has left. -/
def PEnd (w : World) (ys : List Int) (e : Ending) (w' : World) : Prop := ∃ a c, e = .returned (.slice a ys.length c) ∧ Bts w' w.heap.size (.slice a ys.length c) ys ∧ Below w.heap.size w w' ∧ (a = none → c = 0)

theorem pend_of {w w' : World} {e : Ending} {ys : List Int} (h : ∃ v, e = .returned v ∧ Bts w' w.heap.size v ys ∧ Below w.heap.size w w') : PEnd w ys e w' := by
  obtain ⟨v, rfl, h1, h2⟩ := h
  obtain ⟨a, c, rfl, _, _, _, _, k⟩ := h1.shape
  exact ⟨a, c, rfl, h1, h2, k⟩

theorem spec_PutNum_end (a : Option Addr) (cap : Nat) (xs : List Int) (n : Int) (w : World) (hs : Seg w a xs) (hc : a = none → cap = 0) (hl : xs.length ≤ 2097152) : Calls Try.prog 30 #[.slice a xs.length cap, .int .i64 n] w (PEnd w (putNum xs n)) :=
  (spec_PutNum_any a cap xs n w hs hc hl).mono fun e w' h => pend_of h
theorem spec_PutText_end (a b : Option Addr) (c1 c2 : Nat) (xs ts : List Int) (w : World) (ha : Seg w a xs) (hb : Seg w b ts) (ka : a = none → c1 = 0) (kb : b = none → c2 = 0) (hl : xs.length ≤ 2097152) (hl2 : ts.length ≤ 2097152) : Calls Try.prog 31 #[.slice a xs.length c1, .slice b ts.length c2] w (PEnd w (putText xs ts)) :=
  (spec_PutText_any a b c1 c2 xs ts w ha hb ka kb hl hl2).mono fun e w' h => pend_of h

set_option maxHeartbeats 1000000 in
set_option maxRecDepth 100000 in
theorem l2put_leaf (d N : Nat) (a : Option Addr) (cap : Nat) (xs : List Int) (vk vn : Int) (vs : List Int) (vK : List (List Int)) (vL : List (Vl d)) (a2 : Option Addr) (p2 : Nat) (c3 c4 : Value) (w : World) (hs : Seg w a xs) (ka : a = none → cap = 0) (hl : xs.length ≤ 1000000) (s2 : Seg w a2 vs) (k2 : a2 = none → p2 = 0) (m2 : vs.length ≤ 1000000)
    (h3 : ∃ b n p, c3 = .slice b n p) (h4 : ∃ b n p, c4 = .slice b n p) (hk : vk = 0 ∨ vk = 6 ∨ vk = 1 ∨ vk = 3) :
    Calls Try.prog 14 #[.slice a xs.length cap, .agg #[.int .i64 vk, .int .i64 vn, .slice a2 vs.length p2, c3, c4]] w fun e w' => ∃ u, e = .returned u ∧ Bts w' w.heap.size u (bytV (d + 1) (vk, vn, vs, vK, vL) xs) ∧ Below w.heap.size w w' := by
  obtain ⟨b3, n3, q3, rfl⟩ := h3
  obtain ⟨b4, n4, q4, rfl⟩ := h4
  have b0 : ∀ o : Obj, Below w.heap.size w (w.alloc o) := fun o => (Below.refl _ _).alloc (Nat.le_refl _) o
  have Hb := hide' b0
  have H1 : Hid (∀ o : Obj, Calls Try.prog 30 #[.slice a xs.length cap, .int .i64 vk] (w.alloc o) (PEnd (w.alloc o) (putNum xs vk))) := fun o => spec_PutNum_end a cap xs vk _ (hs.grow (b0 o)) ka (by omega)
  have hpl := putNum_len xs vk
  have HS2 : Hid (∀ wx, Below w.heap.size w wx → Seg wx a2 vs) := fun wx hb => s2.grow hb
  have HP : Hid (∀ (a1 : Option Addr) (c1 : Nat) (ys : List Int) (n : Int) (wx : World), Bts wx 0 (.slice a1 ys.length c1) ys → (a1 = none → c1 = 0) → ys.length ≤ 2000000 → Calls Try.prog 30 #[.slice a1 ys.length c1, .int .i64 n] wx (PEnd wx (putNum ys n))) := fun a1 c1 ys n wx hB k hlen => spec_PutNum_end a1 c1 ys n wx hB.seg k (by omega)
  have HT : Hid (∀ (a1 : Option Addr) (c1 : Nat) (ys : List Int) (wx : World), Bts wx 0 (.slice a1 ys.length c1) ys → (a1 = none → c1 = 0) → ys.length ≤ 2000000 → Below w.heap.size w wx → Calls Try.prog 31 #[.slice a1 ys.length c1, .slice a2 vs.length p2] wx (PEnd wx (putText ys vs))) := fun a1 c1 ys wx hB k hlen hbw => spec_PutText_end a1 a2 c1 p2 ys vs wx hB.seg (HS2.out wx hbw) k k2 (by omega) (by omega)
  clear b0 hs s2
  rcases hk with hk | hk | rfl | rfl
  · subst hk
    have HF : Hid (bytV (d + 1) (0, vn, vs, vK, vL) xs = putNum xs 0) := bytV_bare d 0 vn (.inl rfl) vs vK vL xs
    go_enter Try.func14, Try.ntmps14
    go_wp2_with fail
    refine (H1.out _).mono ?_
    rintro e w1 ⟨a1, c1, rfl, hB1, b1, k1⟩
    obtain ⟨y0, y1, y2, y3, y4, _⟩ := row5 (box_row b1)
    have B1 := Below.on (Hb.out _) b1
    have HB1 := hide' (hB1.mono (base' := w.heap.size) (by simp))
    generalize (putNum xs 0).length = n1 at *
    clear b1 hB1
    go_wp2
    go_ret
    exact ⟨_, rfl, by rw [HF.out]; exact HB1.out, B1⟩
  · subst hk
    have HF : Hid (bytV (d + 1) (6, vn, vs, vK, vL) xs = putNum xs 6) := bytV_bare d 6 vn (.inr rfl) vs vK vL xs
    go_enter Try.func14, Try.ntmps14
    go_wp2_with fail
    refine (H1.out _).mono ?_
    rintro e w1 ⟨a1, c1, rfl, hB1, b1, k1⟩
    obtain ⟨y0, y1, y2, y3, y4, _⟩ := row5 (box_row b1)
    have B1 := Below.on (Hb.out _) b1
    have HB1 := hide' (hB1.mono (base' := w.heap.size) (by simp))
    generalize (putNum xs 6).length = n1 at *
    clear b1 hB1
    go_wp2
    go_ret
    exact ⟨_, rfl, by rw [HF.out]; exact HB1.out, B1⟩
  · have HF : Hid (bytV (d + 1) (1, vn, vs, vK, vL) xs = putNum (putNum xs 1) vn) := bytV_bool d vn vs vK vL xs
    go_enter Try.func14, Try.ntmps14
    go_wp2_with fail
    refine (H1.out _).mono ?_
    rintro e w1 ⟨a1, c1, rfl, hB1, b1, k1⟩
    obtain ⟨y0, y1, y2, y3, y4, _⟩ := row5 (box_row b1)
    have B1 := Below.on (Hb.out _) b1
    have H2 := hide' (HP.out a1 c1 (putNum xs 1) vn w1 (hB1.mono (by omega)) k1 (by omega))
    generalize putNum xs 1 = z1 at *
    generalize z1.length = n1 at *
    clear b1 hB1
    go_wp2_with fail
    refine H2.out.mono ?_
    rintro e w2 ⟨a2', c2', rfl, hB2, b2, k2'⟩
    have B2 := Below.on B1 b2
    have HB2 := hide' (hB2.mono (base' := w.heap.size) B1.size)
    generalize (putNum z1 vn).length = n2 at *
    clear b2 hB2 H2
    go_wp2
    go_ret
    exact ⟨_, rfl, by rw [HF.out]; exact HB2.out, B2⟩
  · have HF : Hid (bytV (d + 1) (3, vn, vs, vK, vL) xs = putText (putNum xs 3) vs) := bytV_text d vn vs vK vL xs
    go_enter Try.func14, Try.ntmps14
    go_wp2_with fail
    refine (H1.out _).mono ?_
    rintro e w1 ⟨a1, c1, rfl, hB1, b1, k1⟩
    obtain ⟨y0, y1, y2, y3, y4, _⟩ := row5 (box_row b1)
    have B1 := Below.on (Hb.out _) b1
    have H2 := hide' (HT.out a1 c1 (putNum xs 3) w1 (hB1.mono (by omega)) k1 (by omega) B1)
    generalize putNum xs 3 = z1 at *
    generalize z1.length = n1 at *
    clear b1 hB1
    go_wp2_with fail
    refine H2.out.mono ?_
    rintro e w2 ⟨a2', c2', rfl, hB2, b2, k2'⟩
    have B2 := Below.on B1 b2
    have HB2 := hide' (hB2.mono (base' := w.heap.size) B1.size)
    generalize (putText z1 vs).length = n2 at *
    clear b2 hB2 H2
    go_wp2
    go_ret
    exact ⟨_, rfl, by rw [HF.out]; exact HB2.out, B2⟩
end Go.Proofs.Ytmdmiiikbdnioaa
/-
  What stands under a key in the datum of a map of parts whose keys ascend; no statement is proved here.
-/
namespace Go.Proofs.Ytmdmiiikbdnioaa
open Go.RowKit
set_option linter.unusedVariables false
set_option linter.unusedSimpArgs false

theorem same_u8s {xs ys : List Int} (hx : ∀ x ∈ xs, Byt x) (hy : ∀ y ∈ ys, Byt y) : (Lit.string (u8s xs)).sameKey (.string (u8s ys)) = decide (xs = ys) := by
  have h := strOf_eq hx hy
  rw [strOf_list, strOf_list] at h
  rw [← h]
  simp [Lit.sameKey]

/-- Where the key is none of the map's. -/
theorem look_no {vK : List (List Int)} {ps : List Value} {n : Nat} {key : List Int} (hy : ∀ y ∈ key, Byt y) (hb : ∀ i, i < n → ∀ x ∈ vK.getD i [], Byt x) (hn : ∀ i, i < n → vK.getD i [] ≠ key) (zd : DataW Value) :
    Maps.has (.map (entF vK ps n)) (.string (u8s key)) = false ∧ (DataW.map (entF vK ps n)).atKey (.string (u8s key)) zd = zd := by
  have hnone : ∀ p ∈ entF vK ps n, p.1.sameKey (.string (u8s key)) = false := by
    intro p hp
    simp only [entF, List.mem_map, List.mem_range] at hp
    obtain ⟨i, hi, rfl⟩ := hp
    rw [same_u8s (hb i hi) hy]
    simpa using hn i hi
  refine ⟨?_, ?_⟩
  · simp only [Maps.has, List.any_eq_false]
    intro p hp
    simp [hnone p hp]
  · have : (entF vK ps n).find? (fun p => p.1.sameKey (.string (u8s key))) = none := by
      rw [List.find?_eq_none]
      intro p hp
      simp [hnone p hp]
    simp [DataW.atKey, this]

/-- Where it is the k-th, and none before it. -/
theorem look_yes {vK : List (List Int)} {ps : List Value} {n k : Nat} {key : List Int} (hy : ∀ y ∈ key, Byt y) (hb : ∀ i, i < n → ∀ x ∈ vK.getD i [], Byt x) (hk : k < n) (hn : ∀ i, i < k → vK.getD i [] ≠ key) (he : vK.getD k [] = key) (zd : DataW Value) :
    Maps.has (.map (entF vK ps n)) (.string (u8s key)) = true ∧ (DataW.map (entF vK ps n)).atKey (.string (u8s key)) zd = .held (ps.getD k .nilIface) := by
  have hfind : (entF vK ps n).find? (fun p => p.1.sameKey (.string (u8s key))) = some (.string (u8s (vK.getD k [])), .held (ps.getD k .nilIface)) := by
    rw [List.find?_eq_some_iff_getElem]
    refine ⟨?_, k, by simpa [entF] using hk, by simp [entF], fun j hj => ?_⟩
    · simp only
      rw [same_u8s (hb k hk) hy]
      simpa using he
    · have hj' : j < n := by omega
      simp only [entF, List.getElem_map, List.getElem_range]
      rw [same_u8s (hb j hj') hy]
      simpa using hn j hj
  refine ⟨?_, by simp [DataW.atKey, hfind]⟩
  simp only [Maps.has, List.any_eq_true]
  exact ⟨_, List.mem_of_find?_eq_some hfind, by have := List.find?_some hfind; simpa using this⟩
end Go.Proofs.Ytmdmiiikbdnioaa
/-
  Good values are alike just if their bytes are. Plain mathematics.
-/
namespace Go.Proofs.Ytmdmiiikbdnioaa
open Go.RowKit
set_option linter.unusedVariables false
set_option linter.unusedSimpArgs false

theorem or_kid {d : Nat} {vk vn : Int} {vs : List Int} {vK : List (List Int)} {vL : List (Vl d)} (h : partsV (d + 1) (vk, vn, vs, vK, vL) ≤ 40) : ∀ i (hi : i < vL.length), partsV d vL[i] ≤ 40 := by
  intro i hi
  rw [parts_succ] at h
  have h1 := pre_succ (partsV d) vL i hi
  have h2 := pre_le (partsV d) vL (i + 1)
  have h3 := pre_all (partsV d) vL
  omega
theorem or_many {d : Nat} {vk vn : Int} {vs : List Int} {vK : List (List Int)} {vL : List (Vl (d + 1))} (h : partsV (d + 1 + 1) (vk, vn, vs, vK, vL) ≤ 40) : vL.length ≤ 40 := by
  have hk : ∀ k, k ≤ vL.length → k ≤ pre (partsV (d + 1)) vL k := by
    intro k
    induction k with
    | zero => intro _; exact Nat.zero_le _
    | succ k ih =>
      intro hk
      have h1 := pre_succ (partsV (d + 1)) vL k (by omega)
      have h2 := parts_pos d vL[k]
      have h3 := ih (by omega)
      omega
  rw [parts_succ] at h
  have := hk vL.length (Nat.le_refl _)
  omega

theorem byt_pre : ∀ (d : Nat) (v : Vl d) (xs : List Int), ∃ r, bytV d v xs = xs ++ r
  | 0, v, _ => v.elim
  | d + 1, (vk, vn, vs, vK, vL), xs => by
    obtain ⟨r0, e0⟩ := num_pre xs vk
    show ∃ r, (if vk = 1 then putNum (putNum xs vk) vn else if vk = 2 then putI (putNum xs vk) vn else if vk = 3 then putText (putNum xs vk) vs else if vk = 4 ∨ vk = 5 then kidB (fun x b => bytV d x b) (decide (vk = 5)) vK vL (putNum (putNum xs vk) vL.length) vL.length else putNum xs vk) = xs ++ r
    rw [e0]
    split
    · obtain ⟨r1, e1⟩ := num_pre (xs ++ r0) vn
      exact ⟨r0 ++ r1, by rw [e1, List.append_assoc]⟩
    · split
      · unfold putI
        split
        · obtain ⟨r1, e1⟩ := num_pre (xs ++ r0) 1
          obtain ⟨r2, e2⟩ := num_pre (xs ++ r0 ++ r1) (-vn / 1000000)
          obtain ⟨r3, e3⟩ := num_pre (xs ++ r0 ++ r1 ++ r2) (-vn % 1000000)
          exact ⟨r0 ++ r1 ++ r2 ++ r3, by rw [e1, e2, e3]; simp⟩
        · obtain ⟨r1, e1⟩ := num_pre (xs ++ r0) 0
          obtain ⟨r2, e2⟩ := num_pre (xs ++ r0 ++ r1) (vn / 1000000)
          obtain ⟨r3, e3⟩ := num_pre (xs ++ r0 ++ r1 ++ r2) (vn % 1000000)
          exact ⟨r0 ++ r1 ++ r2 ++ r3, by rw [e1, e2, e3]; simp⟩
      · split
        · obtain ⟨r1, e1⟩ := text_pre (xs ++ r0) vs
          exact ⟨r0 ++ r1, by rw [e1, List.append_assoc]⟩
        · split
          · obtain ⟨r1, e1⟩ := num_pre (xs ++ r0) vL.length
            obtain ⟨r2, e2⟩ := kid_pre (fun x b => bytV d x b) (fun x b => byt_pre d x b) (decide (vk = 5)) vK vL (putNum (xs ++ r0) vL.length) 0 vL.length (by omega)
            rw [Nat.zero_add] at e2
            exact ⟨r0 ++ r1 ++ r2, by rw [e2]; show putNum (xs ++ r0) vL.length ++ r2 = _; rw [e1]; simp⟩
          · exact ⟨r0, rfl⟩

/-- The kind's bytes stand ahead. -/
theorem byt_pre_kind (d : Nat) (vk vn : Int) (vs : List Int) (vK : List (List Int)) (vL : List (Vl d)) (xs : List Int) : ∃ r, bytV (d + 1) (vk, vn, vs, vK, vL) xs = putNum xs vk ++ r := by
  show ∃ r, (if vk = 1 then putNum (putNum xs vk) vn else if vk = 2 then putI (putNum xs vk) vn else if vk = 3 then putText (putNum xs vk) vs else if vk = 4 ∨ vk = 5 then kidB (fun x b => bytV d x b) (decide (vk = 5)) vK vL (putNum (putNum xs vk) vL.length) vL.length else putNum xs vk) = putNum xs vk ++ r
  generalize putNum xs vk = ys
  split
  · exact num_pre _ _
  · split
    · unfold putI
      split
      · obtain ⟨r1, e1⟩ := num_pre ys 1
        obtain ⟨r2, e2⟩ := num_pre (ys ++ r1) (-vn / 1000000)
        obtain ⟨r3, e3⟩ := num_pre (ys ++ r1 ++ r2) (-vn % 1000000)
        exact ⟨r1 ++ r2 ++ r3, by rw [e1, e2, e3]; simp⟩
      · obtain ⟨r1, e1⟩ := num_pre ys 0
        obtain ⟨r2, e2⟩ := num_pre (ys ++ r1) (vn / 1000000)
        obtain ⟨r3, e3⟩ := num_pre (ys ++ r1 ++ r2) (vn % 1000000)
        exact ⟨r1 ++ r2 ++ r3, by rw [e1, e2, e3]; simp⟩
    · split
      · exact text_pre _ _
      · split
        · obtain ⟨r1, e1⟩ := num_pre ys vL.length
          obtain ⟨r2, e2⟩ := kid_pre (fun x b => bytV d x b) (fun x b => byt_pre d x b) (decide (vk = 5)) vK vL (putNum ys vL.length) 0 vL.length (by omega)
          rw [Nat.zero_add] at e2
          exact ⟨r1 ++ r2, by rw [e2]; show putNum ys vL.length ++ r2 = _; rw [e1]; simp⟩
        · exact ⟨[], by simp⟩

/-- What the rules of one part say, kind by kind. -/
theorem or_shape {vk vn : Int} {vs : List Int} {vK : List (List Int)} {n : Nat} (h : shapeB vk vn vs vK n = true) :
    (vk = 0 ∨ vk = 6 ∨ (vk = 1 ∧ (vn = 0 ∨ vn = 1)) ∨ (vk = 2 ∧ -1000000000000 ≤ vn ∧ vn ≤ 1000000000000) ∨ (vk = 3 ∧ vs.length ≤ 20 ∧ ∀ x ∈ vs, Byt x) ∨ vk = 4 ∨ (vk = 5 ∧ vK.length = n ∧ ∀ i, i < n → (vK.getD i []).length ≤ 20 ∧ ∀ x ∈ vK.getD i [], Byt x)) ∧
    (vk = 1 ∨ vk = 2 ∨ vn = 0) ∧ (vk = 4 ∨ vk = 5 ∨ n = 0) := by
  simp only [shapeB, bareB, intB, Bool.and_eq_true, Bool.or_eq_true, decide_eq_true_eq] at h
  obtain ⟨⟨⟨⟨h1, h2⟩, h3⟩, h4⟩, h5⟩ := h
  refine ⟨?_, by omega, by omega⟩
  rcases h5 with ((((((h | h) | h) | h) | h) | h) | h)
  · exact .inl h
  · exact .inr (.inl h)
  · exact .inr (.inr (.inl h))
  · exact .inr (.inr (.inr (.inl h)))
  · refine .inr (.inr (.inr (.inr (.inl ⟨h.1, ?_⟩))))
    have ht := h.2
    simp only [textB, Bool.and_eq_true, decide_eq_true_eq, List.all_eq_true] at ht
    refine ⟨ht.1, fun x hx => ?_⟩
    have := ht.2 x hx
    simp only [chrB, Bool.and_eq_true, decide_eq_true_eq] at this
    unfold Byt
    omega
  · exact .inr (.inr (.inr (.inr (.inr (.inl h)))))
  · refine .inr (.inr (.inr (.inr (.inr (.inr ⟨h.1, h.2.1, fun i hi => ?_⟩)))))
    have ha := h.2.2
    rw [ascB, List.all_eq_true] at ha
    have hs := ha i (List.mem_range.2 (by omega))
    simp only [stepB, Bool.and_eq_true] at hs
    have h1 := hs.1
    simp only [nameB, Bool.and_eq_true, decide_eq_true_eq, List.all_eq_true] at h1
    refine ⟨by omega, fun x hx => ?_⟩
    have := h1.2 x hx
    simp only [letB, Bool.and_eq_true, decide_eq_true_eq] at this
    unfold Byt
    omega

theorem lex_zero (x y : Int) : lex x y = 0 ↔ x = 0 ∧ y = 0 := by unfold lex; by_cases h : x = 0 <;> simp [h]

theorem or_len {d : Nat} {vk vn : Int} {vs : List Int} {vK : List (List Int)} {vL : List (Vl d)} {deep : Nat} (hg : ∀ i (h : i < vL.length), goodB d vL[i] deep = true) (h : partsV (d + 1) (vk, vn, vs, vK, vL) ≤ 40) : vL.length ≤ 40 := by
  cases d with
  | zero =>
    cases vL with
    | nil => simp
    | cons x r => exact (x : Empty).elim
  | succ d => exact or_many h

/-- Values whose bytes are alike are alike. -/
theorem val_inj : ∀ (d : Nat) (a b : Vl d) (da db : Nat) (xs s t : List Int), goodB d a da = true → goodB d b db = true → partsV d a ≤ 40 → partsV d b ≤ 40 → bytV d a xs ++ s = bytV d b xs ++ t → cmpV d a b = 0 ∧ s = t
  | 0, a, _, _, _, _, _, _, _, _, _, _, _ => a.elim
  | d + 1, (ak, an, aS, aK, aL), (bk, bn, bS, bK, bL), da, db, xs, s, t, ha, hb, pa, pb, h => by
    obtain ⟨_, sa, ga⟩ := (good_succ _ _ _ _ _ _ _).1 ha
    obtain ⟨_, sb, gb⟩ := (good_succ _ _ _ _ _ _ _).1 hb
    obtain ⟨ka, na, la⟩ := or_shape sa
    obtain ⟨kb, nb, lb⟩ := or_shape sb
    have lea := or_len ga pa
    have leb := or_len gb pb
    have ka0 : 0 ≤ ak ∧ ak ≤ 6 := by omega
    have kb0 : 0 ≤ bk ∧ bk ≤ 6 := by omega
    suffices hs : lex (numC ak bk) (if ak = 3 then bytesC aS bS else lex (numC an bn) (cmpLs (decide (ak = 5)) (cmpV d) aK bK aL bL)) = 0 ∧ s = t from ⟨(cmpV_lex d (ak, an, aS, aK, aL) (bk, bn, bS, bK, bL)).trans hs.1, hs.2⟩
    have hk : ak = bk := by
      obtain ⟨ra, ea⟩ : ∃ r, bytV (d + 1) (ak, an, aS, aK, aL) xs = putNum xs ak ++ r := byt_pre_kind d ak an aS aK aL xs
      obtain ⟨rb, eb⟩ : ∃ r, bytV (d + 1) (bk, bn, bS, bK, bL) xs = putNum xs bk ++ r := byt_pre_kind d bk bn bS bK bL xs
      rw [ea, eb, List.append_assoc, List.append_assoc] at h
      exact (num_inj (by omega) (by omega) (by omega) (by omega) h).1
    subst hk
    rw [show numC ak ak = 0 from (num_zero _ _).2 rfl]
    have hl0 : ∀ z : Int, lex 0 z = z := fun z => by simp [lex]
    rw [hl0]
    change (if ak = 1 then putNum (putNum xs ak) an else if ak = 2 then putI (putNum xs ak) an else if ak = 3 then putText (putNum xs ak) aS else if ak = 4 ∨ ak = 5 then kidB (fun x b => bytV d x b) (decide (ak = 5)) aK aL (putNum (putNum xs ak) aL.length) aL.length else putNum xs ak) ++ s = (if ak = 1 then putNum (putNum xs ak) bn else if ak = 2 then putI (putNum xs ak) bn else if ak = 3 then putText (putNum xs ak) bS else if ak = 4 ∨ ak = 5 then kidB (fun x b => bytV d x b) (decide (ak = 5)) bK bL (putNum (putNum xs ak) bL.length) bL.length else putNum xs ak) ++ t at h
    generalize putNum xs ak = ys at *
    by_cases k1 : ak = 1
    · subst k1
      rw [if_pos rfl, if_pos rfl] at h
      obtain ⟨e, hst⟩ := num_inj (by omega) (by omega) (by omega) (by omega) h
      subst e
      refine ⟨?_, hst⟩
      rw [if_neg (by omega), lex_zero, ls_zero]
      have l1 : aL = [] := List.eq_nil_of_length_eq_zero (by omega)
      have l2 : bL = [] := List.eq_nil_of_length_eq_zero (by omega)
      subst l1 l2
      exact ⟨(num_zero _ _).2 rfl, rfl, fun i h => by simp at h⟩
    · rw [if_neg k1, if_neg k1] at h
      by_cases k2 : ak = 2
      · subst k2
        rw [if_pos rfl, if_pos rfl] at h
        have l1 : aL = [] := List.eq_nil_of_length_eq_zero (by omega)
        have l2 : bL = [] := List.eq_nil_of_length_eq_zero (by omega)
        have hn : an = bn ∧ s = t := by
          unfold putI at h
          have ra : -1000000000000 ≤ an ∧ an ≤ 1000000000000 := by omega
          have rb : -1000000000000 ≤ bn ∧ bn ≤ 1000000000000 := by omega
          by_cases c1 : an < 0 <;> by_cases c2 : bn < 0
          · rw [if_pos c1, if_pos c2] at h
            obtain ⟨r3, e3⟩ := num_pre (putNum (putNum ys 1) (-an / 1000000)) (-an % 1000000)
            obtain ⟨q3, f3⟩ := num_pre (putNum (putNum ys 1) (-bn / 1000000)) (-bn % 1000000)
            have h2 := h
            rw [e3, f3, List.append_assoc, List.append_assoc] at h2
            have i1 := (num_inj (by omega) (by omega) (by omega) (by omega) h2).1
            rw [i1] at h
            have i2 := num_inj (by omega) (by omega) (by omega) (by omega) h
            exact ⟨by omega, i2.2⟩
          · rw [if_pos c1, if_neg c2] at h
            obtain ⟨r3, e3⟩ := num_pre (putNum (putNum ys 1) (-an / 1000000)) (-an % 1000000)
            obtain ⟨r2, e2⟩ := num_pre (putNum ys 1) (-an / 1000000)
            obtain ⟨q3, f3⟩ := num_pre (putNum (putNum ys 0) (bn / 1000000)) (bn % 1000000)
            obtain ⟨q2, f2⟩ := num_pre (putNum ys 0) (bn / 1000000)
            rw [e3, e2, f3, f2] at h
            simp only [List.append_assoc] at h
            have := (num_inj (by omega) (by omega) (by omega) (by omega) h).1
            omega
          · rw [if_neg c1, if_pos c2] at h
            obtain ⟨r3, e3⟩ := num_pre (putNum (putNum ys 0) (an / 1000000)) (an % 1000000)
            obtain ⟨r2, e2⟩ := num_pre (putNum ys 0) (an / 1000000)
            obtain ⟨q3, f3⟩ := num_pre (putNum (putNum ys 1) (-bn / 1000000)) (-bn % 1000000)
            obtain ⟨q2, f2⟩ := num_pre (putNum ys 1) (-bn / 1000000)
            rw [e3, e2, f3, f2] at h
            simp only [List.append_assoc] at h
            have := (num_inj (by omega) (by omega) (by omega) (by omega) h).1
            omega
          · rw [if_neg c1, if_neg c2] at h
            obtain ⟨r3, e3⟩ := num_pre (putNum (putNum ys 0) (an / 1000000)) (an % 1000000)
            obtain ⟨q3, f3⟩ := num_pre (putNum (putNum ys 0) (bn / 1000000)) (bn % 1000000)
            have h2 := h
            rw [e3, f3, List.append_assoc, List.append_assoc] at h2
            have i1 := (num_inj (by omega) (by omega) (by omega) (by omega) h2).1
            rw [i1] at h
            have i2 := num_inj (by omega) (by omega) (by omega) (by omega) h
            exact ⟨by omega, i2.2⟩
        obtain ⟨rfl, hst⟩ := hn
        refine ⟨?_, hst⟩
        rw [if_neg (by omega), lex_zero, ls_zero]
        subst l1 l2
        exact ⟨(num_zero _ _).2 rfl, rfl, fun i h => by simp at h⟩
      · rw [if_neg k2, if_neg k2] at h
        have en : an = bn := by omega
        subst en
        by_cases k3 : ak = 3
        · subst k3
          rw [if_pos rfl, if_pos rfl] at h
          have ta : aS.length ≤ 20 := by rcases ka with h | h | h | h | h | h | h <;> first | exact h.2.1 | omega
          have tb : bS.length ≤ 20 := by rcases kb with h | h | h | h | h | h | h <;> first | exact h.2.1 | omega
          obtain ⟨rfl, hst⟩ := text_inj ta tb h
          rw [if_pos rfl]
          exact ⟨(cmp_zero _ _).2 rfl, hst⟩
        · rw [if_neg k3, if_neg k3] at h
          rw [if_neg k3, lex_zero, ls_zero]
          by_cases k4 : ak = 4 ∨ ak = 5
          · rw [if_pos k4, if_pos k4] at h
            obtain ⟨r1, e1⟩ := kid_pre (fun x b => bytV d x b) (fun x b => byt_pre d x b) (decide (ak = 5)) aK aL (putNum ys aL.length) 0 aL.length (by omega)
            obtain ⟨r2, e2⟩ := kid_pre (fun x b => bytV d x b) (fun x b => byt_pre d x b) (decide (ak = 5)) bK bL (putNum ys bL.length) 0 bL.length (by omega)
            rw [Nat.zero_add] at e1 e2
            have h2 := h
            rw [e1, e2] at h2
            change (putNum ys aL.length ++ r1) ++ s = (putNum ys bL.length ++ r2) ++ t at h2
            rw [List.append_assoc, List.append_assoc] at h2
            have hlen : aL.length = bL.length := by
              have := (num_inj (by omega) (by omega) (by omega) (by omega) h2).1
              omega
            rw [hlen] at h
            have h3 : kidB (fun x b => bytV d x b) (decide (ak = 5)) aK aL (putNum ys bL.length) aL.length ++ s = kidB (fun x b => bytV d x b) (decide (ak = 5)) bK bL (putNum ys bL.length) bL.length ++ t := by rw [hlen]; exact h
            have hkey : (decide (ak = 5)) = true → ∀ i, i < aL.length → (aK.getD i []).length ≤ 20 ∧ (bK.getD i []).length ≤ 20 := by
              intro h5 i hi
              have h5 := of_decide_eq_true h5
              have q1 : ∀ i, i < aL.length → (aK.getD i []).length ≤ 20 := by rcases ka with h | h | h | h | h | h | h <;> first | exact fun i hi => (h.2.2 i hi).1 | omega
              have q2 : ∀ i, i < bL.length → (bK.getD i []).length ≤ 20 := by rcases kb with h | h | h | h | h | h | h <;> first | exact fun i hi => (h.2.2 i hi).1 | omega
              exact ⟨q1 i hi, q2 i (by omega)⟩
            obtain ⟨e, hall⟩ := kid_inj (fun x b => bytV d x b) (fun x b => byt_pre d x b) (decide (ak = 5)) aK bK aL bL (putNum ys bL.length) s t hlen hkey (fun x y => cmpV d x y = 0) (fun i h1 h2 P s t hP => val_inj d aL[i] bL[i] (da + 1) (db + 1) P s t (ga i h1) (gb i h2) (or_kid pa i h1) (or_kid pb i h2) hP) h3 aL.length (Nat.le_refl _)
            rw [e, hlen] at h3
            refine ⟨⟨(num_zero _ _).2 rfl, hlen, fun i h1 h2 => ⟨(hall i h1 h2 h1).1, fun hm => ?_⟩⟩, List.append_cancel_left h3⟩
            rw [(hall i h1 h2 h1).2 hm]
            exact (cmp_zero _ _).2 rfl
          · rw [if_neg k4, if_neg k4] at h
            have l1 : aL = [] := List.eq_nil_of_length_eq_zero (by omega)
            have l2 : bL = [] := List.eq_nil_of_length_eq_zero (by omega)
            subst l1 l2
            exact ⟨⟨(num_zero _ _).2 rfl, rfl, fun i h => by simp at h⟩, List.append_cancel_left h⟩
end Go.Proofs.Ytmdmiiikbdnioaa
