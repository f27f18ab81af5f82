/-
  Texts that a law leans on, one behind the other; no statement is proved here.
-/
import Derived.Test.YtmdmiiikbdnioaaPk20
import Derived.Test.YtmdmiiikbdnioaaPk3
import Derived.Test.YtmdmiiikbdnioaaPk10
import Derived.Maps.Own
import Derived.Test.YtmdmiiikbdnioaaPk14
import Derived.Test.YtmdmiiikbdnioaaPk0
import Derived.Maps.AppendAt
/-
  The bytes of a value. Plain mathematics.
-/
namespace Go.Proofs.Ytmdmiiikbdnioaa
open Go.RowKit
set_option linter.unusedVariables false
set_option linter.unusedSimpArgs false

/-- A number with its sign. -/
def putI (xs : List Int) (n : Int) : List Int := if n < 0 then putNum (putNum (putNum xs 1) (-n / 1000000)) (-n % 1000000) else putNum (putNum (putNum xs 0) (n / 1000000)) (n % 1000000)

/-- The bytes of the first k kids, each behind its key, if there are keys. -/
def kidB {α : Type} (f : α → List Int → List Int) (m : Bool) (K : List (List Int)) (L : List α) (b : List Int) : Nat → List Int
  | 0 => b
  | k + 1 => match L[k]? with
    | some x => f x (if m then putText (kidB f m K L b k) (K.getD k []) else kidB f m K L b k)
    | none => kidB f m K L b k

/-- The bytes of a value, behind what is there. -/
def bytV : (d : Nat) → Vl d → List Int → List Int
  | 0, _, xs => xs
  | d + 1, v, xs =>
    if v.1 = 1 then putNum (putNum xs v.1) v.2.1
    else if v.1 = 2 then putI (putNum xs v.1) v.2.1
    else if v.1 = 3 then putText (putNum xs v.1) v.2.2.1
    else if v.1 = 4 ∨ v.1 = 5 then kidB (fun x b => bytV d x b) (decide (v.1 = 5)) v.2.2.2.1 v.2.2.2.2 (putNum (putNum xs v.1) v.2.2.2.2.length) v.2.2.2.2.length
    else putNum xs v.1

theorem kidB_succ {α : Type} (f : α → List Int → List Int) (m : Bool) (K : List (List Int)) (L : List α) (b : List Int) (k : Nat) (h : k < L.length) :
    kidB f m K L b (k + 1) = f L[k] (if m then putText (kidB f m K L b k) (K.getD k []) else kidB f m K L b k) := by
  show (match L[k]? with | some x => _ | none => _) = _
  rw [List.getElem?_eq_getElem h]

theorem putI_len (xs : List Int) (n : Int) : (putI xs n).length ≤ xs.length + 15 := by
  unfold putI
  split
  · have h1 := putNum_len xs 1
    have h2 := putNum_len (putNum xs 1) (-n / 1000000)
    have h3 := putNum_len (putNum (putNum xs 1) (-n / 1000000)) (-n % 1000000)
    omega
  · have h1 := putNum_len xs 0
    have h2 := putNum_len (putNum xs 0) (n / 1000000)
    have h3 := putNum_len (putNum (putNum xs 0) (n / 1000000)) (n % 1000000)
    omega

theorem kidB_len {α : Type} (f : α → List Int → List Int) (c : α → Nat) (hf : ∀ x b, (f x b).length + 25 ≤ b.length + 60 * c x) (m : Bool) (K : List (List Int)) (L : List α) (b : List Int) : ∀ k, k ≤ L.length → (kidB f m K L b k).length ≤ b.length + 60 * pre c L k
  | 0, _ => by simp [kidB]
  | k + 1, hk => by
    have ih := kidB_len f c hf m K L b k (by omega)
    rw [kidB_succ f m K L b k (by omega), pre_succ c L k (by omega)]
    cases m with
    | true =>
      have h1 := hf L[k] (putText (kidB f true K L b k) (K.getD k []))
      have h2 := putText_len (kidB f true K L b k) (K.getD k [])
      simp only [if_true]
      omega
    | false =>
      have h1 := hf L[k] (kidB f false K L b k)
      simp only [Bool.false_eq_true, if_false]
      omega

theorem bytV_len : ∀ (d : Nat) (v : Vl d) (xs : List Int), (bytV d v xs).length + 25 ≤ xs.length + 60 * partsV d v
  | 0, v, _ => v.elim
  | d + 1, v, xs => by
    obtain ⟨vk, vn, vs, vK, vL⟩ := v
    have hp := parts_succ d vk vn vs vK vL
    have h0 := putNum_len xs vk
    show (if vk = 1 then putNum (putNum xs vk) vn else if vk = 2 then putI (putNum xs vk) vn else if vk = 3 then putText (putNum xs vk) vs
      else if vk = 4 ∨ vk = 5 then kidB (fun x b => bytV d x b) (decide (vk = 5)) vK vL (putNum (putNum xs vk) vL.length) vL.length else putNum xs vk).length + 25 ≤ _
    split
    · have := putNum_len (putNum xs vk) vn
      omega
    split
    · have := putI_len (putNum xs vk) vn
      omega
    split
    · have := putText_len (putNum xs vk) vs
      omega
    split
    · have h1 := kidB_len (fun x b => bytV d x b) (partsV d) (fun x b => bytV_len d x b) (decide (vk = 5)) vK vL (putNum (putNum xs vk) vL.length) vL.length (Nat.le_refl _)
      have h2 := putNum_len (putNum xs vk) vL.length
      omega
    · omega

theorem bytV_bool (d : Nat) (vn : Int) (vs : List Int) (vK : List (List Int)) (vL : List (Vl d)) (xs : List Int) : bytV (d + 1) (1, vn, vs, vK, vL) xs = putNum (putNum xs 1) vn := rfl
theorem bytV_int (d : Nat) (vn : Int) (vs : List Int) (vK : List (List Int)) (vL : List (Vl d)) (xs : List Int) : bytV (d + 1) (2, vn, vs, vK, vL) xs = putI (putNum xs 2) vn := rfl
theorem bytV_text (d : Nat) (vn : Int) (vs : List Int) (vK : List (List Int)) (vL : List (Vl d)) (xs : List Int) : bytV (d + 1) (3, vn, vs, vK, vL) xs = putText (putNum xs 3) vs := rfl
theorem bytV_list (d : Nat) (vn : Int) (vs : List Int) (vK : List (List Int)) (vL : List (Vl d)) (xs : List Int) : bytV (d + 1) (4, vn, vs, vK, vL) xs = kidB (fun x b => bytV d x b) false vK vL (putNum (putNum xs 4) vL.length) vL.length := rfl
theorem bytV_map (d : Nat) (vn : Int) (vs : List Int) (vK : List (List Int)) (vL : List (Vl d)) (xs : List Int) : bytV (d + 1) (5, vn, vs, vK, vL) xs = kidB (fun x b => bytV d x b) true vK vL (putNum (putNum xs 5) vL.length) vL.length := rfl
theorem bytV_bare (d : Nat) (vk vn : Int) (hk : vk = 0 ∨ vk = 6) (vs : List Int) (vK : List (List Int)) (vL : List (Vl d)) (xs : List Int) : bytV (d + 1) (vk, vn, vs, vK, vL) xs = putNum xs vk := by
  rcases hk with rfl | rfl <;> rfl

/-- What ValBytes answers. -/
def valBytes (d : Nat) (v : Vl d) : List Int := if okB d v = true then bytV d v [] else []
end Go.Proofs.Ytmdmiiikbdnioaa
/-
  What the program's inner parts (an interface with one type a kind) hold: 'PSeg' reads one as a value; lists and maps of them.
-/
namespace Go.Proofs.Ytmdmiiikbdnioaa
open Go.RowKit
set_option linter.unusedVariables false
set_option linter.unusedSimpArgs false

/-- A part of the program's reads as a value of depth at most d; it lies in blocks of R. -/
def PSeg (R : Nat → Prop) (w : World) : (d : Nat) → Value → Vl d → Prop
  | 0, _, _ => False
  | d + 1, p, v =>
    (v.1 = 0 ∧ p = .iface 89 (.agg #[])) ∨ (v.1 = 6 ∧ p = .iface 90 (.agg #[])) ∨
    (v.1 = 1 ∧ p = .iface 69 (.agg #[.int .i64 v.2.1])) ∨ (v.1 = 2 ∧ p = .iface 70 (.agg #[.int .i64 v.2.1])) ∨
    (v.1 = 3 ∧ p = .iface 72 (.agg #[.string (strOf v.2.2.1)])) ∨
    (v.1 = 4 ∧ ∃ a cap, p = .iface 75 (.agg #[.slice a v.2.2.2.2.length cap]) ∧ (v.2.2.2.2 = [] ∨ ∃ b off, a = some ⟨b, off, none⟩ ∧ R b ∧ ∀ i (h : i < v.2.2.2.2.length), ∃ u, w.cell? ⟨b, off + i, none⟩ = some u ∧ PSeg R w d u (v.2.2.2.2[i]))) ∨
    (v.1 = 5 ∧ ∃ b ps, p = .iface 78 (.agg #[.map (some b)]) ∧ R b ∧ w.ownsMap Try.prog 9 tokR b 64 (mapD v.2.2.2.1 ps v.2.2.2.2.length) ∧ ∀ i (h : i < v.2.2.2.2.length), PSeg R w d (ps.getD i .nilIface) (v.2.2.2.2[i]))

/-- A slice of parts. -/
def PLSeg (R : Nat → Prop) (w : World) (d : Nat) (x : Value) (l : List (Vl d)) : Prop :=
  ∃ a cap, x = .slice a l.length cap ∧ (l = [] ∨ ∃ b off, a = some ⟨b, off, none⟩ ∧ R b ∧ ∀ i (h : i < l.length), ∃ u, w.cell? ⟨b, off + i, none⟩ = some u ∧ PSeg R w d u (l[i]))

theorem ownsMap_agree {R : Nat → Prop} {w w' : World} {b n : Nat} {D : DataW Value} (h : w.ownsMap Try.prog 9 tokR b n D) (ha : Agree R w w') (hb : R b) : w'.ownsMap Try.prog 9 tokR b n D := by
  obtain ⟨es, clock, h1, r⟩ := h
  exact ⟨es, clock, (ha b hb).trans h1, r⟩

theorem PSeg.carry {R R' : Nat → Prop} {w w' : World} (hr : ∀ b, R b → R' b) (ha : Agree R w w') (d : Nat) : ∀ {p : Value} {v : Vl d}, PSeg R w d p v → PSeg R' w' d p v := by
  induction d with
  | zero => intro p v h; exact h
  | succ d ih =>
    intro p v h
    rcases h with h | h | h | h | h | ⟨hk, a, cap, hp, hc⟩ | ⟨hk, b, ps, hp, hR, hm, hc⟩
    · exact .inl h
    · exact .inr (.inl h)
    · exact .inr (.inr (.inl h))
    · exact .inr (.inr (.inr (.inl h)))
    · exact .inr (.inr (.inr (.inr (.inl h))))
    · refine .inr (.inr (.inr (.inr (.inr (.inl ⟨hk, a, cap, hp, ?_⟩)))))
      rcases hc with h0 | ⟨b, off, e, hR, hc⟩
      · exact .inl h0
      · refine .inr ⟨b, off, e, hr b hR, fun i hi => ?_⟩
        obtain ⟨u, hu, hv⟩ := hc i hi
        exact ⟨u, (cell_agree ha hR).trans hu, ih hv⟩
    · exact .inr (.inr (.inr (.inr (.inr (.inr ⟨hk, b, ps, hp, hr b hR, ownsMap_agree hm ha hR, fun i hi => ih (hc i hi)⟩)))))

/-- What take leaves of all that was there: all but the block of its counter. -/
theorem agree_grown {N q : Nat} {w w' : World} (h : w.grownBy w' (some q)) (hN : N ≤ q) (hq : q < w.heap.size) : Agree (fun b => b < N) w w' := fun b hb => h.block b (by omega) (by simp; omega)

theorem run_makeMapN (t k e : TypeId) (n : Int) (w : World) (ht : Try.prog.underlying t = some (.map k e)) : (Instr.makeMap t (some (.int .i64 n))).run Try.prog w = .ok (.map (some w.heap.size)) (w.alloc (.map #[] 0)) := by
  unfold Instr.makeMap
  simp only [Sem.run_bind, Sem.run_pure, run_underlying ht, Result.andThen]
  rfl

theorem info_part : (Try.prog.info? 44).map (fun i => (i.zero, i.size, i.bytes)) = some (some .nilIface, 1, 16) := by kernel_rfl

/-- The counter of an intake. -/
def Cnt (w : World) (q : Nat) (n : Nat) : Prop := w.heap[q]? = some (.cells #[.int .i64 n] 61 (0, 0))

/-- What a good take has brought about. -/
def Took (d : Nat) (v : Vl d) (deep n q : Nat) (w w' : World) (p : Value) : Prop :=
  goodB d v deep = true ∧ n + partsV d v ≤ 40 ∧ Cnt w' q (n + partsV d v) ∧ PSeg (fun b => w.heap.size ≤ b ∧ b < w'.heap.size) w' d p v

/-- The contract of take at depth d. -/
def TakeAt (d : Nat) : Prop := ∀ (N q n : Nat) (c : Value × Value × Value × Value × Value) (v : Vl d) (deep : Nat) (w : World), VSeg (fun b => b < N) w d c v → N ≤ q → q < w.heap.size → Cnt w q n → n ≤ 40 → deep ≤ 6 →
  Calls Try.prog 32 #[.pointer (some ⟨q, 0, none⟩), .agg #[c.1, c.2.1, c.2.2.1, c.2.2.2.1, c.2.2.2.2], .int .i64 deep] w fun e w' =>
    w.grownBy w' (some q) ∧ ((∃ p, e = .returned (.tuple #[p, .bool true]) ∧ Took d v deep n q w w' p) ∨ (e = .returned (.tuple #[.nilIface, .bool false]) ∧ ¬ (goodB d v deep = true ∧ n + partsV d v ≤ 40)))

theorem Cnt.cell {w : World} {q n : Nat} (h : Cnt w q n) : w.cell? ⟨q, 0, none⟩ = some (.int .i64 n) ∧ w.frozen? ⟨q, 0, none⟩ = false := by
  refine ⟨?_, frozen_of_row w q 0 _ _ h⟩
  rw [cell_of_row w q 0 _ _ (0, 0) h]
  rfl

theorem Cnt.set {w : World} {q n : Nat} (h : Cnt w q n) (m : Nat) : Cnt (w.setCell ⟨q, 0, none⟩ (.int .i64 m)) q m := heap_setCell_same w q 0 _ _ _ h
end Go.Proofs.Ytmdmiiikbdnioaa
/-
  l2find of the specification: where a key stands.
-/
namespace Go.Proofs.Ytmdmiiikbdnioaa
open Go.RowKit
set_option linter.unusedVariables false
set_option linter.unusedSimpArgs false

/-- Where a key stands; -1 where it does not. -/
def findK (ks : List (List Int)) (key : List Int) : Int := match ks.findIdx? (fun k => decide (k = key)) with | some i => i | none => -1

theorem findK_at {ks : List (List Int)} {key : List Int} {k : Nat} (hk : k < ks.length) (hn : ∀ i, i < k → ks.getD i [] ≠ key) (he : ks.getD k [] = key) : findK ks key = k := by
  have : ks.findIdx? (fun x => decide (x = key)) = some k := by
    rw [List.findIdx?_eq_some_iff_getElem]
    refine ⟨hk, ?_, fun j hj => ?_⟩
    · simp [List.getD_eq_getElem?_getD, hk] at he
      simp [he]
    · have h1 := hn j hj
      simp [List.getD_eq_getElem?_getD, (show j < ks.length by omega)] at h1
      simp [h1]
  simp [findK, this]

theorem findK_no {ks : List (List Int)} {key : List Int} (hn : ∀ i, i < ks.length → ks.getD i [] ≠ key) : findK ks key = -1 := by
  have : ks.findIdx? (fun x => decide (x = key)) = none := by
    rw [List.findIdx?_eq_none_iff]
    intro x hx
    obtain ⟨i, hi, rfl⟩ := List.getElem_of_mem hx
    have h1 := hn i hi
    simp [List.getD_eq_getElem?_getD, hi] at h1
    simp [h1]
  simp [findK, this]

end Go.Proofs.Ytmdmiiikbdnioaa
/-
  The order of values: it is one; and values are alike just if their bytes are. Plain mathematics.
-/
namespace Go.Proofs.Ytmdmiiikbdnioaa
open Go.RowKit
set_option linter.unusedVariables false
set_option linter.unusedSimpArgs false

/-- Of three: not ahead, and alike only if all are. -/
def T3 (x y z : Int) : Prop := 0 ≤ x → 0 ≤ y → 0 ≤ z ∧ (z = 0 → x = 0 ∧ y = 0)
/-- First this, then that. -/
def lex (x y : Int) : Int := if x ≠ 0 then x else y

theorem t3_lex {x1 y1 z1 x2 y2 z2 : Int} (h1 : T3 x1 y1 z1) (h2 : x1 = 0 → y1 = 0 → T3 x2 y2 z2) : T3 (lex x1 x2) (lex y1 y2) (lex z1 z2) := by
  unfold T3 lex at *
  intro ha hb
  have hx : 0 ≤ x1 := by by_cases h : x1 = 0 <;> simp_all
  have hy : 0 ≤ y1 := by by_cases h : y1 = 0 <;> simp_all
  obtain ⟨hz, he⟩ := h1 hx hy
  by_cases hz0 : z1 = 0
  · obtain ⟨e1, e2⟩ := he hz0
    subst e1 e2 hz0
    simp at ha hb ⊢
    exact h2 rfl rfl ha hb
  · rw [if_pos hz0]
    exact ⟨hz, fun e => absurd e hz0⟩

theorem lex_neg (x y : Int) : lex (-x) (-y) = - lex x y := by
  unfold lex
  by_cases h : x = 0 <;> simp [h]

theorem or_num (a b c : Int) : T3 (numC a b) (numC b c) (numC a c) := by
  unfold T3 numC
  intro h1 h2
  split at h1 <;> split at h2 <;> split <;> (try split at h1) <;> (try split at h2) <;> (try split) <;> simp_all <;> omega
theorem num_zero (a b : Int) : numC a b = 0 ↔ a = b := by
  unfold numC
  split
  · simp; omega
  · split
    · simp; omega
    · simp; omega
theorem num_swap (a b : Int) : numC b a = - numC a b := by
  unfold numC
  split <;> split <;> first | omega | rfl

theorem cmp_cons (x y : UInt8) (a b : List UInt8) : Lib.compareBytes (x :: a) (y :: b) = lex (numC x.toNat y.toNat) (Lib.compareBytes a b) := by
  show (if x < y then (-1 : Int) else if y < x then 1 else Lib.compareBytes a b) = _
  generalize Lib.compareBytes a b = z
  unfold lex numC
  by_cases h1 : x < y
  · have h1' : (x.toNat : Int) < y.toNat := by have := UInt8.lt_iff_toNat_lt.1 h1; omega
    simp [h1, h1']
  · by_cases h2 : y < x
    · have h2' : (y.toNat : Int) < x.toNat := by have := UInt8.lt_iff_toNat_lt.1 h2; omega
      have h1' : ¬ (x.toNat : Int) < y.toNat := by omega
      simp [h1, h2, h1', h2']
    · have h1' : ¬ (x.toNat : Int) < y.toNat := fun h => h1 (UInt8.lt_iff_toNat_lt.2 (by omega))
      have h2' : ¬ (y.toNat : Int) < x.toNat := fun h => h2 (UInt8.lt_iff_toNat_lt.2 (by omega))
      simp [h1, h2, h1', h2']

theorem or_bytes : ∀ a b c : List UInt8, T3 (Lib.compareBytes a b) (Lib.compareBytes b c) (Lib.compareBytes a c)
  | [], [], [] => by simp [T3, Lib.compareBytes]
  | [], [], _ :: _ => by simp [T3, Lib.compareBytes]
  | [], _ :: _, _ => by simp [T3, Lib.compareBytes]
  | _ :: _, [], [] => by simp [T3, Lib.compareBytes]
  | _ :: _, [], _ :: _ => by simp [T3, Lib.compareBytes]
  | _ :: _, _ :: _, [] => by simp [T3, Lib.compareBytes]
  | x :: a, y :: b, z :: c => by
    rw [cmp_cons, cmp_cons, cmp_cons]
    exact t3_lex (or_num _ _ _) fun _ _ => or_bytes a b c
theorem or_text (a b c : List Int) : T3 (bytesC a b) (bytesC b c) (bytesC a c) := or_bytes _ _ _
theorem text_swap (a b : List Int) : bytesC b a = - bytesC a b := cmp_swap _ _

theorem byt_inj : ∀ {xs ys : List Int}, (∀ x ∈ xs, Byt x) → (∀ x ∈ ys, Byt x) → u8s xs = u8s ys → xs = ys
  | [], [], _, _, _ => rfl
  | [], _ :: _, _, _, h => by simp [u8s] at h
  | _ :: _, [], _, _, h => by simp [u8s] at h
  | x :: xs, y :: ys, hx, hy, h => by
    simp only [u8s, List.map_cons, List.cons.injEq] at h
    have e := byt_inj (fun z hz => hx z (by simp [hz])) (fun z hz => hy z (by simp [hz])) h.2
    have bx := hx x (by simp)
    have by' := hy y (by simp)
    unfold Byt at bx by'
    have h1 := congrArg UInt8.toNat h.1
    simp at h1
    rw [e]
    congr 1
    omega
theorem text_zero {xs ys : List Int} (hx : ∀ x ∈ xs, Byt x) (hy : ∀ x ∈ ys, Byt x) : bytesC xs ys = 0 ↔ xs = ys := by
  constructor
  · intro h
    exact byt_inj hx hy ((cmp_zero _ _).1 h)
  · rintro rfl
    exact (cmp_zero _ _).2 rfl

theorem ls_cons {α : Type} (m : Bool) (f : α → α → Int) (aK bK : List (List Int)) (a b : α) (aL bL : List α) : cmpLs m f aK bK (a :: aL) (b :: bL) = lex (if m = true then bytesC (aK.headD []) (bK.headD []) else 0) (lex (f a b) (cmpLs m f aK.tail bK.tail aL bL)) := by
  show (if m = true ∧ _ then _ else _) = _
  unfold lex
  cases m
  · simp
  · simp

theorem or_ls {α : Type} (m : Bool) (f : α → α → Int) (hf : ∀ a b c, T3 (f a b) (f b c) (f a c)) : ∀ (aK bK cK : List (List Int)) (aL bL cL : List α), T3 (cmpLs m f aK bK aL bL) (cmpLs m f bK cK bL cL) (cmpLs m f aK cK aL cL)
  | _, _, _, [], [], [] => by simp [T3, cmpLs]
  | _, _, _, [], [], _ :: _ => by simp [T3, cmpLs]
  | _, _, _, [], _ :: _, _ => by simp [T3, cmpLs]
  | _, _, _, _ :: _, [], [] => by simp [T3, cmpLs]
  | _, _, _, _ :: _, [], _ :: _ => by simp [T3, cmpLs]
  | _, _, _, _ :: _, _ :: _, [] => by simp [T3, cmpLs]
  | aK, bK, cK, a :: aL, b :: bL, c :: cL => by
    rw [ls_cons, ls_cons, ls_cons]
    refine t3_lex ?_ fun _ _ => t3_lex (hf a b c) fun _ _ => or_ls m f hf _ _ _ aL bL cL
    cases m
    · simp [T3]
    · exact or_text _ _ _
theorem ls_swap {α : Type} (m : Bool) (f : α → α → Int) (hf : ∀ a b, f b a = - f a b) : ∀ (aK bK : List (List Int)) (aL bL : List α), cmpLs m f bK aK bL aL = - cmpLs m f aK bK aL bL
  | _, _, [], [] => by simp [cmpLs]
  | _, _, [], _ :: _ => by simp [cmpLs]
  | _, _, _ :: _, [] => by simp [cmpLs]
  | aK, bK, a :: aL, b :: bL => by
    rw [ls_cons, ls_cons, hf a b, ls_swap m f hf aK.tail bK.tail aL bL, text_swap (aK.headD []) (bK.headD [])]
    rw [lex_neg]
    cases m
    · simp [lex]
    · rw [if_pos rfl, if_pos rfl, lex_neg]

theorem cmpV_lex (d : Nat) (a b : Vl (d + 1)) : cmpV (d + 1) a b = lex (numC a.1 b.1) (if a.1 = 3 then bytesC a.2.2.1 b.2.2.1 else lex (numC a.2.1 b.2.1) (cmpLs (decide (a.1 = 5)) (cmpV d) a.2.2.2.1 b.2.2.2.1 a.2.2.2.2 b.2.2.2.2)) := by
  show (if a.1 ≠ b.1 then numC a.1 b.1 else if a.1 = 3 then bytesC a.2.2.1 b.2.2.1 else if a.2.1 ≠ b.2.1 then numC a.2.1 b.2.1 else cmpLs (decide (a.1 = 5)) (cmpV d) a.2.2.2.1 b.2.2.2.1 a.2.2.2.2 b.2.2.2.2) = _
  have e1 := num_zero a.1 b.1
  have e2 := num_zero a.2.1 b.2.1
  unfold lex
  by_cases h1 : a.1 = b.1
  · have h1' := e1.2 h1
    rw [if_neg (not_not_intro h1), if_neg (not_not_intro h1')]
    by_cases h3 : a.1 = 3
    · rw [if_pos h3, if_pos h3]
    · rw [if_neg h3, if_neg h3]
      by_cases h2 : a.2.1 = b.2.1
      · rw [if_neg (not_not_intro h2), if_neg (not_not_intro (e2.2 h2))]
      · rw [if_pos h2, if_pos (fun h => h2 (e2.1 h))]
  · rw [if_pos h1, if_pos (fun h => h1 (e1.1 h))]

/-- The order is one. -/
theorem or_val : ∀ (d : Nat) (a b c : Vl d), T3 (cmpV d a b) (cmpV d b c) (cmpV d a c)
  | 0, _, _, _ => by simp [T3, cmpV]
  | d + 1, a, b, c => by
    rw [cmpV_lex, cmpV_lex, cmpV_lex]
    refine t3_lex (or_num _ _ _) fun h1 h2 => ?_
    have e1 : a.1 = b.1 := (num_zero _ _).1 h1
    have e2 : b.1 = c.1 := (num_zero _ _).1 h2
    rw [← e1]
    by_cases h3 : a.1 = 3
    · rw [if_pos h3, if_pos h3, if_pos h3]
      exact or_text _ _ _
    · rw [if_neg h3, if_neg h3, if_neg h3]
      exact t3_lex (or_num _ _ _) fun _ _ => or_ls _ _ (or_val d) _ _ _ _ _ _
theorem val_swap : ∀ (d : Nat) (a b : Vl d), cmpV d b a = - cmpV d a b
  | 0, _, _ => by simp [cmpV]
  | d + 1, a, b => by
    rw [cmpV_lex, cmpV_lex, num_swap a.1 b.1, num_swap a.2.1 b.2.1, text_swap a.2.2.1 b.2.2.1]
    unfold lex
    by_cases h1 : numC a.1 b.1 = 0
    · have e1 : a.1 = b.1 := (num_zero _ _).1 h1
      rw [h1, e1]
      simp only [Int.neg_zero, ne_eq, not_true_eq_false, if_false]
      by_cases h3 : b.1 = 3
      · rw [if_pos h3, if_pos h3]
      · rw [if_neg h3, if_neg h3, ls_swap _ _ (val_swap d) a.2.2.2.1 b.2.2.2.1 a.2.2.2.2 b.2.2.2.2]
        by_cases h2 : numC a.2.1 b.2.1 = 0 <;> simp [h2]
    · simp [h1]

/-- Lists are alike just if all parts are, and the keys where they count. -/
theorem ls_zero {α : Type} (m : Bool) (f : α → α → Int) : ∀ (aK bK : List (List Int)) (aL bL : List α), cmpLs m f aK bK aL bL = 0 ↔ aL.length = bL.length ∧ ∀ i (h : i < aL.length) (h' : i < bL.length), f aL[i] bL[i] = 0 ∧ (m = true → bytesC (aK.getD i []) (bK.getD i []) = 0)
  | _, _, [], [] => by simp [cmpLs]
  | _, _, [], _ :: _ => by simp [cmpLs]
  | _, _, _ :: _, [] => by simp [cmpLs]
  | aK, bK, a :: aL, b :: bL => by
    have ih := ls_zero m f aK.tail bK.tail aL bL
    have ht : ∀ (K : List (List Int)) i, K.tail.getD i [] = K.getD (i + 1) [] := fun K i => by cases K <;> simp
    have hh : ∀ K : List (List Int), K.headD [] = K.getD 0 [] := fun K => by cases K <;> simp
    rw [ls_cons]
    have hlx : ∀ x y : Int, lex x y = 0 ↔ x = 0 ∧ y = 0 := fun x y => by unfold lex; by_cases h : x = 0 <;> simp [h]
    rw [hlx, hlx, ih, hh, hh]
    constructor
    · rintro ⟨h1, h2, h3, h4⟩
      refine ⟨by simp [h3], fun i h h' => ?_⟩
      cases i with
      | zero => exact ⟨h2, fun hm => by simpa [hm] using h1⟩
      | succ i =>
        obtain ⟨g1, g2⟩ := h4 i (by simpa using h) (by simpa using h')
        refine ⟨by simpa using g1, fun hm => ?_⟩
        have := g2 hm
        rwa [ht, ht] at this
    · rintro ⟨h1, h2⟩
      obtain ⟨g1, g2⟩ := h2 0 (by simp) (by simp)
      refine ⟨?_, by simpa using g1, by simpa using h1, fun i h h' => ?_⟩
      · cases m
        · simp
        · simpa using g2 rfl
      · obtain ⟨k1, k2⟩ := h2 (i + 1) (by simpa using h) (by simpa using h')
        refine ⟨by simpa using k1, fun hm => ?_⟩
        rw [ht, ht]
        exact k2 hm

/-- A number is read back from its bytes. -/
theorem num_inj {ys s t : List Int} {n m : Int} (h0 : 0 ≤ n) (h1 : n ≤ 2147483647) (g0 : 0 ≤ m) (g1 : m ≤ 2147483647) (h : putNum ys n ++ s = putNum ys m ++ t) : n = m ∧ s = t := by
  have e1 := getNum_put ys s n h0 h1
  have e2 := getNum_put ys t m g0 g1
  rw [h, e2] at e1
  simp only [Prod.mk.injEq] at e1
  obtain rfl := e1.1
  exact ⟨rfl, List.append_cancel_left h⟩
theorem text_inj {ys s t us vs : List Int} (hu : us.length ≤ 20) (hv : vs.length ≤ 20) (h : putText ys us ++ s = putText ys vs ++ t) : us = vs ∧ s = t := by
  rw [putText_yes ys us (by omega), putText_yes ys vs (by omega), List.append_assoc, List.append_assoc] at h
  obtain ⟨hl, h2⟩ := num_inj (by omega) (by omega) (by omega) (by omega) h
  have := List.append_inj h2 (by omega)
  exact this
theorem num_pre (ys : List Int) (n : Int) : ∃ r, putNum ys n = ys ++ r := by
  unfold putNum
  split
  · exact ⟨[], by simp⟩
  · exact ⟨_, rfl⟩
theorem text_pre (ys ts : List Int) : ∃ r, putText ys ts = ys ++ r := by
  unfold putText
  split
  · exact ⟨[], by simp⟩
  · obtain ⟨r, e⟩ := num_pre ys ts.length
    exact ⟨r ++ ts, by rw [e, List.append_assoc]⟩
theorem kid_pre {α : Type} (f : α → List Int → List Int) (hf : ∀ x b, ∃ r, f x b = b ++ r) (m : Bool) (K : List (List Int)) (L : List α) (b : List Int) (k : Nat) : ∀ j, k + j ≤ L.length → ∃ r, kidB f m K L b (k + j) = kidB f m K L b k ++ r
  | 0, _ => ⟨[], by simp⟩
  | j + 1, hj => by
    obtain ⟨r, e⟩ := kid_pre f hf m K L b k j (by omega)
    rw [show k + (j + 1) = (k + j) + 1 from rfl, kidB_succ f m K L b (k + j) (by omega)]
    cases m
    · obtain ⟨r2, e2⟩ := hf L[k + j] (kidB f false K L b (k + j))
      exact ⟨r ++ r2, by simp only [Bool.false_eq_true, if_false]; rw [e2, e, List.append_assoc]⟩
    · obtain ⟨r1, e1⟩ := text_pre (kidB f true K L b (k + j)) (K.getD (k + j) [])
      obtain ⟨r2, e2⟩ := hf L[k + j] (putText (kidB f true K L b (k + j)) (K.getD (k + j) []))
      exact ⟨r ++ (r1 ++ r2), by simp only [if_true]; rw [e2, e1, e]; simp⟩

theorem kid_inj {α : Type} (f : α → List Int → List Int) (hf : ∀ x b, ∃ r, f x b = b ++ r) (m : Bool) (Ka Kb : List (List Int)) (La Lb : List α) (b s t : List Int) (hl : La.length = Lb.length) (hk : m = true → ∀ i, i < La.length → (Ka.getD i []).length ≤ 20 ∧ (Kb.getD i []).length ≤ 20)
    (R : α → α → Prop) (hi : ∀ i (h : i < La.length) (h' : i < Lb.length) (P s t : List Int), f La[i] P ++ s = f Lb[i] P ++ t → R La[i] Lb[i] ∧ s = t) (h : kidB f m Ka La b La.length ++ s = kidB f m Kb Lb b Lb.length ++ t) :
    ∀ k, k ≤ La.length → kidB f m Ka La b k = kidB f m Kb Lb b k ∧ ∀ i (h : i < La.length) (h' : i < Lb.length), i < k → R La[i] Lb[i] ∧ (m = true → Ka.getD i [] = Kb.getD i [])
  | 0, _ => ⟨rfl, fun i _ _ h => by omega⟩
  | k + 1, hkl => by
    obtain ⟨e, hall⟩ := kid_inj f hf m Ka Kb La Lb b s t hl hk R hi h k (by omega)
    obtain ⟨ra, ea⟩ := kid_pre f hf m Ka La b (k + 1) (La.length - (k + 1)) (by omega)
    obtain ⟨rb, eb⟩ := kid_pre f hf m Kb Lb b (k + 1) (Lb.length - (k + 1)) (by omega)
    rw [show k + 1 + (La.length - (k + 1)) = La.length by omega] at ea
    rw [show k + 1 + (Lb.length - (k + 1)) = Lb.length by omega] at eb
    have h' := h
    rw [ea, eb, List.append_assoc, List.append_assoc] at h'
    have sa := kidB_succ f m Ka La b k (by omega)
    have sb := kidB_succ f m Kb Lb b k (by omega)
    rw [e] at sa
    generalize kidB f m Kb Lb b k = P at *
    cases m
    · simp only [Bool.false_eq_true, if_false] at sa sb
      rw [sa, sb] at h' ⊢
      obtain ⟨hR, hst⟩ := hi k (by omega) (by omega) _ _ _ h'
      rw [hst] at h'
      refine ⟨List.append_cancel_right h', fun i g1 g2 g3 => ?_⟩
      by_cases hik : i = k
      · subst hik; exact ⟨hR, fun h => by simp at h⟩
      · exact hall i g1 g2 (by omega)
    · simp only [if_true] at sa sb
      rw [sa, sb] at h' ⊢
      obtain ⟨q1, q2⟩ := hk rfl k (by omega)
      have hkey : Ka.getD k [] = Kb.getD k [] := by
        obtain ⟨r1, e1⟩ := hf La[k] (putText P (Ka.getD k []))
        obtain ⟨r2, e2⟩ := hf Lb[k] (putText P (Kb.getD k []))
        have h2 := h'
        rw [e1, e2, List.append_assoc, List.append_assoc] at h2
        exact (text_inj q1 q2 h2).1
      rw [hkey] at h' ⊢
      obtain ⟨hR, hst⟩ := hi k (by omega) (by omega) _ _ _ h'
      rw [hst] at h'
      refine ⟨List.append_cancel_right h', fun i g1 g2 g3 => ?_⟩
      by_cases hik : i = k
      · subst hik; exact ⟨hR, fun _ => hkey⟩
      · exact hall i g1 g2 (by omega)
end Go.Proofs.Ytmdmiiikbdnioaa
/-
  Which type a part is: the type assertions of a part, at each type.
-/
namespace Go.Proofs.Ytmdmiiikbdnioaa
open Go.RowKit
set_option linter.unusedVariables false
set_option linter.unusedSimpArgs false

theorem nobool_nullPart (x : Value) (w : World) : (Instr.typeAssert (.iface 89 x) 44 69 true).run Try.prog w = .ok (.tuple #[.agg #[.int .i64 0], .bool false]) w := by kernel_rfl
theorem nobool_unknownPart (x : Value) (w : World) : (Instr.typeAssert (.iface 90 x) 44 69 true).run Try.prog w = .ok (.tuple #[.agg #[.int .i64 0], .bool false]) w := by kernel_rfl
theorem nobool_intPart (x : Value) (w : World) : (Instr.typeAssert (.iface 70 x) 44 69 true).run Try.prog w = .ok (.tuple #[.agg #[.int .i64 0], .bool false]) w := by kernel_rfl
theorem nobool_textPart (x : Value) (w : World) : (Instr.typeAssert (.iface 72 x) 44 69 true).run Try.prog w = .ok (.tuple #[.agg #[.int .i64 0], .bool false]) w := by kernel_rfl
theorem nobool_listPart (x : Value) (w : World) : (Instr.typeAssert (.iface 75 x) 44 69 true).run Try.prog w = .ok (.tuple #[.agg #[.int .i64 0], .bool false]) w := by kernel_rfl
theorem nobool_mapPart (x : Value) (w : World) : (Instr.typeAssert (.iface 78 x) 44 69 true).run Try.prog w = .ok (.tuple #[.agg #[.int .i64 0], .bool false]) w := by kernel_rfl
theorem noint_nullPart (x : Value) (w : World) : (Instr.typeAssert (.iface 89 x) 44 70 true).run Try.prog w = .ok (.tuple #[.agg #[.int .i64 0], .bool false]) w := by kernel_rfl
theorem noint_unknownPart (x : Value) (w : World) : (Instr.typeAssert (.iface 90 x) 44 70 true).run Try.prog w = .ok (.tuple #[.agg #[.int .i64 0], .bool false]) w := by kernel_rfl
theorem noint_textPart (x : Value) (w : World) : (Instr.typeAssert (.iface 72 x) 44 70 true).run Try.prog w = .ok (.tuple #[.agg #[.int .i64 0], .bool false]) w := by kernel_rfl
theorem noint_listPart (x : Value) (w : World) : (Instr.typeAssert (.iface 75 x) 44 70 true).run Try.prog w = .ok (.tuple #[.agg #[.int .i64 0], .bool false]) w := by kernel_rfl
theorem noint_mapPart (x : Value) (w : World) : (Instr.typeAssert (.iface 78 x) 44 70 true).run Try.prog w = .ok (.tuple #[.agg #[.int .i64 0], .bool false]) w := by kernel_rfl
theorem notext_nullPart (x : Value) (w : World) : (Instr.typeAssert (.iface 89 x) 44 72 true).run Try.prog w = .ok (.tuple #[.agg #[.string ⟨#[]⟩], .bool false]) w := by kernel_rfl
theorem notext_unknownPart (x : Value) (w : World) : (Instr.typeAssert (.iface 90 x) 44 72 true).run Try.prog w = .ok (.tuple #[.agg #[.string ⟨#[]⟩], .bool false]) w := by kernel_rfl
theorem notext_listPart (x : Value) (w : World) : (Instr.typeAssert (.iface 75 x) 44 72 true).run Try.prog w = .ok (.tuple #[.agg #[.string ⟨#[]⟩], .bool false]) w := by kernel_rfl
theorem notext_mapPart (x : Value) (w : World) : (Instr.typeAssert (.iface 78 x) 44 72 true).run Try.prog w = .ok (.tuple #[.agg #[.string ⟨#[]⟩], .bool false]) w := by kernel_rfl
theorem nolist_nullPart (x : Value) (w : World) : (Instr.typeAssert (.iface 89 x) 44 75 true).run Try.prog w = .ok (.tuple #[.agg #[.slice none 0 0], .bool false]) w := by kernel_rfl
theorem nolist_unknownPart (x : Value) (w : World) : (Instr.typeAssert (.iface 90 x) 44 75 true).run Try.prog w = .ok (.tuple #[.agg #[.slice none 0 0], .bool false]) w := by kernel_rfl
theorem nolist_mapPart (x : Value) (w : World) : (Instr.typeAssert (.iface 78 x) 44 75 true).run Try.prog w = .ok (.tuple #[.agg #[.slice none 0 0], .bool false]) w := by kernel_rfl
theorem nomap_nullPart (x : Value) (w : World) : (Instr.typeAssert (.iface 89 x) 44 78 true).run Try.prog w = .ok (.tuple #[.agg #[.map none], .bool false]) w := by kernel_rfl
theorem nomap_unknownPart (x : Value) (w : World) : (Instr.typeAssert (.iface 90 x) 44 78 true).run Try.prog w = .ok (.tuple #[.agg #[.map none], .bool false]) w := by kernel_rfl
theorem is_boolPart (x : Value) (w : World) : (Instr.typeAssert (.iface 69 x) 44 69 true).run Try.prog w = .ok (.tuple #[x, .bool true]) w := by kernel_rfl
theorem is_intPart (x : Value) (w : World) : (Instr.typeAssert (.iface 70 x) 44 70 true).run Try.prog w = .ok (.tuple #[x, .bool true]) w := by kernel_rfl
theorem is_textPart (x : Value) (w : World) : (Instr.typeAssert (.iface 72 x) 44 72 true).run Try.prog w = .ok (.tuple #[x, .bool true]) w := by kernel_rfl
theorem is_listPart (x : Value) (w : World) : (Instr.typeAssert (.iface 75 x) 44 75 true).run Try.prog w = .ok (.tuple #[x, .bool true]) w := by kernel_rfl
theorem is_mapPart (x : Value) (w : World) : (Instr.typeAssert (.iface 78 x) 44 78 true).run Try.prog w = .ok (.tuple #[x, .bool true]) w := by kernel_rfl

end Go.Proofs.Ytmdmiiikbdnioaa
/-
  The kind of a part: a method of an interface value, by the value's own type.
-/
namespace Go.Proofs.Ytmdmiiikbdnioaa
open Go.RowKit Go.Shelf
set_option linter.unusedVariables false
set_option linter.unusedSimpArgs false

theorem meth_nullPart (x : Value) (w : World) : (method 253 89 x "loop.example/g00407/impl.kind").run Try.prog w = .ok (112, x) w := by kernel_rfl
theorem calls_nullPart (args : Array Value) (w : World) : (callFunc 112 args).run Try.prog w = .ok (.enter 112 args) w := enters_of Try.func112 (by kernel_rfl) rfl args w
theorem meth_unknownPart (x : Value) (w : World) : (method 253 90 x "loop.example/g00407/impl.kind").run Try.prog w = .ok (113, x) w := by kernel_rfl
theorem calls_unknownPart (args : Array Value) (w : World) : (callFunc 113 args).run Try.prog w = .ok (.enter 113 args) w := enters_of Try.func113 (by kernel_rfl) rfl args w
theorem meth_boolPart (x : Value) (w : World) : (method 253 69 x "loop.example/g00407/impl.kind").run Try.prog w = .ok (107, x) w := by kernel_rfl
theorem calls_boolPart (args : Array Value) (w : World) : (callFunc 107 args).run Try.prog w = .ok (.enter 107 args) w := enters_of Try.func107 (by kernel_rfl) rfl args w
theorem meth_intPart (x : Value) (w : World) : (method 253 70 x "loop.example/g00407/impl.kind").run Try.prog w = .ok (108, x) w := by kernel_rfl
theorem calls_intPart (args : Array Value) (w : World) : (callFunc 108 args).run Try.prog w = .ok (.enter 108 args) w := enters_of Try.func108 (by kernel_rfl) rfl args w
theorem meth_textPart (x : Value) (w : World) : (method 253 72 x "loop.example/g00407/impl.kind").run Try.prog w = .ok (109, x) w := by kernel_rfl
theorem calls_textPart (args : Array Value) (w : World) : (callFunc 109 args).run Try.prog w = .ok (.enter 109 args) w := enters_of Try.func109 (by kernel_rfl) rfl args w
theorem meth_listPart (x : Value) (w : World) : (method 253 75 x "loop.example/g00407/impl.kind").run Try.prog w = .ok (110, x) w := by kernel_rfl
theorem calls_listPart (args : Array Value) (w : World) : (callFunc 110 args).run Try.prog w = .ok (.enter 110 args) w := enters_of Try.func110 (by kernel_rfl) rfl args w
theorem meth_mapPart (x : Value) (w : World) : (method 253 78 x "loop.example/g00407/impl.kind").run Try.prog w = .ok (111, x) w := by kernel_rfl
theorem calls_mapPart (args : Array Value) (w : World) : (callFunc 111 args).run Try.prog w = .ok (.enter 111 args) w := enters_of Try.func111 (by kernel_rfl) rfl args w

set_option maxHeartbeats 800000 in
theorem kind_nullPart (w : World) : Calls Try.prog 112 #[.agg #[]] w fun e w' => e = .returned (.int .i64 0) ∧ Below w.heap.size w w' := by
  have Hb : Hid (∀ o : Obj, Below w.heap.size w (w.alloc o)) := fun o => (Below.refl _ _).alloc (Nat.le_refl _) o
  go_enter Try.func112, Try.ntmps112
  go_wp2
  go_ret
  exact ⟨rfl, Hb.out _⟩
set_option maxHeartbeats 800000 in
theorem kind_unknownPart (w : World) : Calls Try.prog 113 #[.agg #[]] w fun e w' => e = .returned (.int .i64 6) ∧ Below w.heap.size w w' := by
  have Hb : Hid (∀ o : Obj, Below w.heap.size w (w.alloc o)) := fun o => (Below.refl _ _).alloc (Nat.le_refl _) o
  go_enter Try.func113, Try.ntmps113
  go_wp2
  go_ret
  exact ⟨rfl, Hb.out _⟩
set_option maxHeartbeats 800000 in
theorem kind_boolPart (n : Int) (w : World) : Calls Try.prog 107 #[.agg #[.int .i64 n]] w fun e w' => e = .returned (.int .i64 1) ∧ Below w.heap.size w w' := by
  have Hb : Hid (∀ o : Obj, Below w.heap.size w (w.alloc o)) := fun o => (Below.refl _ _).alloc (Nat.le_refl _) o
  go_enter Try.func107, Try.ntmps107
  go_wp2
  go_ret
  exact ⟨rfl, Hb.out _⟩
set_option maxHeartbeats 800000 in
theorem kind_intPart (n : Int) (w : World) : Calls Try.prog 108 #[.agg #[.int .i64 n]] w fun e w' => e = .returned (.int .i64 2) ∧ Below w.heap.size w w' := by
  have Hb : Hid (∀ o : Obj, Below w.heap.size w (w.alloc o)) := fun o => (Below.refl _ _).alloc (Nat.le_refl _) o
  go_enter Try.func108, Try.ntmps108
  go_wp2
  go_ret
  exact ⟨rfl, Hb.out _⟩
set_option maxHeartbeats 800000 in
theorem kind_textPart (s : ByteArray) (w : World) : Calls Try.prog 109 #[.agg #[.string s]] w fun e w' => e = .returned (.int .i64 3) ∧ Below w.heap.size w w' := by
  have Hb : Hid (∀ o : Obj, Below w.heap.size w (w.alloc o)) := fun o => (Below.refl _ _).alloc (Nat.le_refl _) o
  go_enter Try.func109, Try.ntmps109
  go_wp2
  go_ret
  exact ⟨rfl, Hb.out _⟩
set_option maxHeartbeats 800000 in
theorem kind_listPart (a : Option Addr) (n c : Nat) (w : World) : Calls Try.prog 110 #[.agg #[.slice a n c]] w fun e w' => e = .returned (.int .i64 4) ∧ Below w.heap.size w w' := by
  have Hb : Hid (∀ o : Obj, Below w.heap.size w (w.alloc o)) := fun o => (Below.refl _ _).alloc (Nat.le_refl _) o
  go_enter Try.func110, Try.ntmps110
  go_wp2
  go_ret
  exact ⟨rfl, Hb.out _⟩
set_option maxHeartbeats 800000 in
theorem kind_mapPart (b : Nat) (w : World) : Calls Try.prog 111 #[.agg #[.map (some b)]] w fun e w' => e = .returned (.int .i64 5) ∧ Below w.heap.size w w' := by
  have Hb : Hid (∀ o : Obj, Below w.heap.size w (w.alloc o)) := fun o => (Below.refl _ _).alloc (Nat.le_refl _) o
  go_enter Try.func111, Try.ntmps111
  go_wp2
  go_ret
  exact ⟨rfl, Hb.out _⟩

/-- What a call of kind leans on. -/
def KindOf (pt : TypeId) (px : Value) (vk : Int) : Prop := ∃ f : Nat, (∀ w, (method 253 pt px "loop.example/g00407/impl.kind").run Try.prog w = .ok (f, px) w) ∧ (∀ args w, (callFunc f args).run Try.prog w = .ok (.enter f args) w) ∧ ∀ w, Calls Try.prog f #[px] w fun e w' => e = .returned (.int .i64 vk) ∧ Below w.heap.size w w'

theorem kind_of {R : Nat → Prop} {w : World} {d : Nat} {pt : TypeId} {px : Value} {v : Vl (d + 1)} (h : PSeg R w (d + 1) (.iface pt px) v) : KindOf pt px v.1 := by
  rcases h with ⟨hk, e⟩ | ⟨hk, e⟩ | ⟨hk, e⟩ | ⟨hk, e⟩ | ⟨hk, e⟩ | ⟨hk, a, cap, e, _⟩ | ⟨hk, b, ps, e, _⟩ <;>
    simp only [Value.iface.injEq] at e <;> obtain ⟨rfl, rfl⟩ := e <;> rw [hk]
  · exact ⟨_, meth_nullPart _, calls_nullPart, kind_nullPart⟩
  · exact ⟨_, meth_unknownPart _, calls_unknownPart, kind_unknownPart⟩
  · exact ⟨_, meth_boolPart _, calls_boolPart, kind_boolPart _⟩
  · exact ⟨_, meth_intPart _, calls_intPart, kind_intPart _⟩
  · exact ⟨_, meth_textPart _, calls_textPart, kind_textPart _⟩
  · exact ⟨_, meth_listPart _, calls_listPart, kind_listPart _ _ _⟩
  · exact ⟨_, meth_mapPart _, calls_mapPart, kind_mapPart _⟩
end Go.Proofs.Ytmdmiiikbdnioaa
/-
  takeAll of the program: it takes a list of values in, out of what take does at one.
-/
namespace Go.Proofs.Ytmdmiiikbdnioaa
open Go.RowKit
set_option linter.unusedVariables false
set_option linter.unusedSimpArgs false

theorem grownBy_fresh {w w1 w2 : World} {r r' : Option Nat} (h : w.grownBy w1 r) (k : w1.grownBy w2 r') (hr : ∀ j, r' = some j → w.heap.size ≤ j) : w.grownBy w2 r :=
  ⟨k.os.trans h.os, k.tape.trans h.tape, k.output.trans h.output, Nat.le_trans h.size k.size, fun i hi hne => (k.block i (Nat.lt_of_lt_of_le hi h.size) (fun e => by have := hr i e.symm; omega)).trans (h.block i hi hne)⟩

theorem parts_one (d : Nat) (v : Vl d) : 1 ≤ partsV d v := by
  cases d with
  | zero => exact v.elim
  | succ d => exact parts_pos d v

theorem pre_ge (d : Nat) (l : List (Vl d)) (k : Nat) (h : k ≤ l.length) : k ≤ pre (partsV d) l k := by
  induction k with
  | zero => omega
  | succ k ih =>
    have := pre_succ (partsV d) l k (by omega)
    have := parts_one d l[k]
    have := ih (by omega)
    omega

theorem Cnt.keep {w w' : World} {q n : Nat} {r : Option Nat} (h : Cnt w q n) (hg : w.grownBy w' r) (hr : some q ≠ r) : Cnt w' q n :=
  (hg.block q (Array.getElem?_eq_some_iff.1 h).1 hr).trans h

/-- What holds after k rounds of takeAll. -/
def TA (d : Nat) (l : List (Vl d)) (deep n q : Nat) (w wr : World) (k : Nat) (y : Value) (ps : List Value) : Prop :=
  k ≤ l.length ∧ ps.length = k ∧ wr.ownsRow w.heap.size 44 1 y k ps ∧ (∀ j (h : j < l.length), j < k → goodB d l[j] deep = true) ∧ n + pre (partsV d) l k ≤ 40 ∧ Cnt wr q (n + pre (partsV d) l k) ∧
    (∀ j (h : j < l.length), j < k → PSeg (fun b => w.heap.size ≤ b ∧ b < wr.heap.size ∧ some b ≠ y.ownBlock) wr d (ps.getD j .nilIface) l[j]) ∧ w.grownBy wr (some q)

theorem TA_zero {d : Nat} {l : List (Vl d)} {deep n q : Nat} {w : World} (hc : Cnt w q n) (hn : n ≤ 40) : TA d l deep n q w w 0 (.slice none 0 0) [] :=
  ⟨Nat.zero_le _, rfl, World.ownsRow_nil w _ _ _, fun j _ h => by omega, by rw [pre_zero]; omega, by rw [pre_zero]; exact hc, fun j _ h => by omega, World.grownBy.refl _ _⟩

theorem own_ne {w : World} {base e n q : Nat} {y : Value} {xs : List Value} (h : w.ownsRow base e 1 y n xs) (hq : q < base) : some q ≠ y.ownBlock := fun e => by
  have := h.lt q e.symm
  omega

theorem TA_none {d : Nat} {l : List (Vl d)} {deep n q : Nat} {w wr W : World} {k : Nat} {y : Value} {ps : List Value} (h : TA d l deep n q w wr k y ps) (hg : wr.grownBy W none) : TA d l deep n q w W k y ps := by
  obtain ⟨h1, h2, h3, h4, h5, h6, h7, h8⟩ := h
  refine ⟨h1, h2, h3.kept hg ?_, h4, h5, h6.keep hg (by simp), fun j hj hjk => ?_, grownBy_fresh h8 hg (by simp)⟩
  · cases hy : y.ownBlock with
    | none => exact .inl rfl
    | some z => exact .inr (by simp)
  · refine PSeg.carry (fun b hb => ⟨hb.1, Nat.lt_of_lt_of_le hb.2.1 hg.size, hb.2.2⟩) (fun b hb => hg.block b hb.2.1 (by simp)) d (h7 j hj hjk)

/-- Behind take: the same, but for the counter. -/
theorem TA_row {d : Nat} {l : List (Vl d)} {deep n q : Nat} {w wr w1 : World} {k : Nat} {y : Value} {ps : List Value} (h : TA d l deep n q w wr k y ps) (hq : q < w.heap.size) (hg : wr.grownBy w1 (some q)) (o : Obj) : (w1.alloc o).ownsRow w.heap.size 44 1 y k ps := by
  obtain ⟨h1, h2, h3, h4, h5, h6, h7, h8⟩ := h
  have := h3.kept hg (.inr (fun e => own_ne h3 hq e.symm))
  exact this.alloc o

theorem TA_next {d : Nat} {l : List (Vl d)} {deep n q : Nat} {w wr w1 w2 : World} {k : Nat} {y y' p : Value} {ps : List Value} {T : TypeId} (h : TA d l deep n q w wr k y ps) (hq : q < w.heap.size) (hk : k < l.length) (hg : wr.grownBy w1 (some q))
    (ht : Took d l[k] deep (n + pre (partsV d) l k) q wr w1 p) (hown : w2.ownsRow w.heap.size 44 1 y' (k + 1) (ps ++ [p])) (hg2 : (w1.alloc (.cells #[p] T)).grownBy w2 y.ownBlock) (hloc : y'.ownBlock = y.ownBlock ∨ y'.ownBlock = some (w1.alloc (.cells #[p] T)).heap.size) :
    TA d l deep n q w w2 (k + 1) y' (ps ++ [p]) := by
  obtain ⟨h1, h2, h3, h4, h5, h6, h7, h8⟩ := h
  obtain ⟨t1, t2, t3, t4⟩ := ht
  have hps := pre_succ (partsV d) l k hk
  have hal : w1.grownBy (w1.alloc (.cells #[p] T)) none := World.grownBy_alloc w1 _ none
  have hsz : (w1.alloc (.cells #[p] T)).heap.size = w1.heap.size + 1 := by simp
  have hyb : ∀ j, y.ownBlock = some j → w.heap.size ≤ j ∧ j < wr.heap.size := fun j hj => h3.lt j hj
  have hs1 := hg.size
  have hs2 := hg2.size
  have hs8 := h8.size
  refine ⟨hk, by simp [h2], hown, fun j hj hjk => ?_, by rw [hps]; omega, ?_, fun j hj hjk => ?_, ?_⟩
  · by_cases e : j = k
    · subst e; exact t1
    · exact h4 j hj (by omega)
  · rw [hps, ← Nat.add_assoc]
    exact (t3.keep hal (by simp)).keep hg2 (fun e => by have := hyb q e.symm; omega)
  · by_cases e : j = k
    · subst e
      have : (ps ++ [p]).getD j .nilIface = p := by simp [List.getD_eq_getElem?_getD, ← h2]
      rw [this]
      refine PSeg.carry (fun b hb => ⟨by omega, by omega, fun e => ?_⟩) (fun b hb => (hg2.block b (by omega) (fun e => by have := hyb b e.symm; omega)).trans (hal.block b hb.2 (by simp))) d t4
      rcases hloc with e2 | e2
      · have := hyb b (e2.symm.trans e.symm); omega
      · rw [e2] at e; simp at e; omega
    · have hjk' : j < k := by omega
      have : (ps ++ [p]).getD j .nilIface = ps.getD j .nilIface := by
        simp only [List.getD_eq_getElem?_getD]
        rw [List.getElem?_append_left (by omega)]
      rw [this]
      refine PSeg.carry (fun b hb => ⟨hb.1, by omega, fun e => ?_⟩) (fun b hb => (hg2.block b (by omega) hb.2.2).trans ((hal.block b (by omega) (by simp)).trans (hg.block b hb.2.1 (by simp; omega)))) d (h7 j hj hjk')
      rcases hloc with e2 | e2
      · exact hb.2.2 (e.trans e2)
      · rw [e2] at e; simp at e; omega
  · exact grownBy_fresh (grownBy_fresh (grownBy_trans h8 hg) hal (by simp)) hg2 (fun j hj => (hyb j hj).1)

/-- What a good takeAll has brought about. -/
def TookAll (d : Nat) (l : List (Vl d)) (deep n q : Nat) (w w' : World) (y : Value) : Prop :=
  (∀ j (h : j < l.length), goodB d l[j] deep = true) ∧ n + pre (partsV d) l l.length ≤ 40 ∧ Cnt w' q (n + pre (partsV d) l l.length) ∧
    ∃ (a : Option Addr) (cap : Nat) (ps : List Value), y = .slice a l.length cap ∧ (l = [] ∨ ∃ b, a = some ⟨b, 0, none⟩ ∧ w.heap.size ≤ b ∧ b < w'.heap.size ∧ ∀ i, i < l.length → w'.cell? ⟨b, i, none⟩ = some (ps.getD i .nilIface)) ∧ ∀ i (h : i < l.length), PSeg (fun b => w.heap.size ≤ b ∧ b < w'.heap.size) w' d (ps.getD i .nilIface) l[i]

theorem TA_end {d : Nat} {l : List (Vl d)} {deep n q : Nat} {w wr : World} {y : Value} {ps : List Value} (h : TA d l deep n q w wr l.length y ps) : TookAll d l deep n q w wr y := by
  obtain ⟨h1, h2, h3, h4, h5, h6, h7, h8⟩ := h
  have hcell := fun g (hg : y.ownBlock = some g) => h3.lt g hg
  refine ⟨fun j hj => h4 j hj hj, h5, h6, ?_⟩
  have h3' := h3
  rcases h3.2 with ⟨rfl, e0⟩ | ⟨g, cap, cur, rfl, hg, hh, hle, hm, hsz, htk⟩
  · exact ⟨none, 0, ps, by rw [e0], .inl (List.eq_nil_of_length_eq_zero e0), fun i hi => by omega⟩
  · refine ⟨some ⟨g, 0, none⟩, cap, ps, rfl, .inr ⟨g, rfl, hg, (Array.getElem?_eq_some_iff.1 hh).1, fun i hi => ?_⟩, fun i hi => PSeg.carry (fun b hb => ⟨hb.1, hb.2.1⟩) (fun b _ => rfl) d (h7 i hi hi)⟩
    have := World.ownsRow.cellAt h3' i (by omega)
    rw [this]
    simp [List.getD_eq_getElem?_getD, show i < ps.length from by omega]

end Go.Proofs.Ytmdmiiikbdnioaa
