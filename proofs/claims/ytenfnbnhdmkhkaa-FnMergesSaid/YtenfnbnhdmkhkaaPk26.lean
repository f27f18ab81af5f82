/-
  Texts that a law leans on, one behind the other; no statement is proved here.
-/
import Derived.Test.YtenfnbnhdmkhkaaPk25
import Derived.Test.YtenfnbnhdmkhkaaPk24
/-
  take, partOf of the program, at every value.
-/
namespace Go.Proofs.Ytenfnbnhdmkhkaa
open Go.RowKit
set_option linter.unusedVariables false
set_option linter.unusedSimpArgs false

/-- A leaf that was taken in. -/
theorem took_leaf {d : Nat} {vk vn : Int} {vs : List Int} {vK : List (List Int)} {deep n q : Nat} {w : World} {a2 a3 a4 : Option Addr} {l2 l3 l4 p2 p3 p4 : Nat} {p : Value} (hd : deep ≤ 5) (hn : n < 40) (hs : shapeB vk vn vs vK 0 = true)
    (hp : ∀ R w', PSeg R w' (d + 1) p (vk, vn, vs, vK, [])) (e : Ending) (w' : World) (h : Ahead w q n vk vn a2 a3 a4 l2 l3 l4 p2 p3 p4 w' ∧ e = .returned (.tuple #[p, .bool true])) : TakeEnd (d + 1) (vk, vn, vs, vK, []) deep n q w e w' := by
  obtain ⟨hA, rfl⟩ := h
  have e1 : partsV (d + 1) (vk, vn, vs, vK, []) = 1 := by rw [parts_succ]; simp [pre]
  refine ⟨hA.1, .inl ⟨p, rfl, (good_succ _ _ _ _ _ _ _).2 ⟨hd, by simpa using hs, fun j h => by simp at h⟩, by rw [e1]; omega, by rw [e1]; exact hA.2.1, hp _ _⟩⟩

theorem no_take {d : Nat} {v : Vl d} {deep n q : Nat} {w : World} {vk vn : Int} {a2 a3 a4 : Option Addr} {l2 l3 l4 p2 p3 p4 : Nat} (hno : ¬ (goodB d v deep = true ∧ n + partsV d v ≤ 40)) (e : Ending) (w' : World) (h : Ahead w q n vk vn a2 a3 a4 l2 l3 l4 p2 p3 p4 w' ∧ e = .returned (.tuple #[.nilIface, .bool false])) : TakeEnd d v deep n q w e w' := by
  obtain ⟨hA, rfl⟩ := h
  exact ⟨hA.1, .inr ⟨rfl, hno⟩⟩

theorem bad_shape {d : Nat} {vk vn : Int} {vs : List Int} {vK : List (List Int)} {vL : List (Vl d)} {deep n : Nat} (h : shapeB vk vn vs vK vL.length = false) : ¬ (goodB (d + 1) (vk, vn, vs, vK, vL) deep = true ∧ n + partsV (d + 1) (vk, vn, vs, vK, vL) ≤ 40) := fun ⟨h1, _⟩ => by
  have := ((good_succ _ _ _ _ _ _ _).1 h1).2.1
  rw [h] at this
  simp at this

set_option maxHeartbeats 1600000 in
theorem take_succ (d : Nat) (ih : TakeAt d) : TakeAt (d + 1) := by
  intro N q n c v deep w hv hNq hq hc hn hd
  show Calls _ _ _ _ (TakeEnd (d + 1) v deep n q w)
  obtain ⟨c0, c1, c2, c3, c4⟩ := c
  obtain ⟨vk, vn, vs, vK, vL⟩ := v
  obtain ⟨e0, e1, ht, hk, hl⟩ := (VSeg_succ _ _ _ _ _).1 hv
  simp only at e0 e1 ht hk hl
  subst e0
  subst e1
  clear hv
  simp only
  have HT := ht
  have HK := hk
  have HL := hl
  obtain ⟨a2, p2, rfl, s2, l2, m2, _, _⟩ := ht
  obtain ⟨a3, p3, rfl, _, _, _, _⟩ := hk
  obtain ⟨a4, p4, rfl, _, _, _, _⟩ := hl
  by_cases q1 : n = 40
  · refine (take_over q n vk vn a2 a3 a4 _ _ _ p2 p3 p4 deep w hq hc q1).mono fun e w' h => ⟨h.1, .inr ⟨h.2, fun ⟨_, h2⟩ => ?_⟩⟩
    have := parts_pos d (vk, vn, vs, vK, vL)
    omega
  have hn' : n < 40 := by omega
  by_cases q2 : 5 < deep
  · refine (take_deep q n vk vn _ _ _ a2 a3 a4 p2 p3 p4 deep w hq hc hn' q2).mono (no_take fun ⟨h1, _⟩ => ?_)
    have := ((good_succ _ _ _ _ _ _ _).1 h1).1
    omega
  have hD1 : deep ≤ 5 := by omega
  by_cases q3 : bareB vk vn vs.length vK.length vL.length = false
  · exact (take_bare q n vk vn _ _ _ a2 a3 a4 p2 p3 p4 deep w hq hc hn' hD1 q3).mono (no_take (bad_shape (by simp [shapeB, q3])))
  have q4 : bareB vk vn vs.length vK.length vL.length = true := by simpa using q3
  clear q1 q2 q3
  by_cases k0 : vk = 0
  · subst k0
    have : vn = 0 ∧ vs = [] ∧ vK = [] ∧ vL = [] := by simp [bareB] at q4; simpa [and_assoc] using q4
    obtain ⟨rfl, rfl, rfl, rfl⟩ := this
    exact (take_null q n a2 a3 a4 p2 p3 p4 deep w hq hc hn' hD1).mono (took_leaf hD1 hn' (by simp [shapeB, bareB]) fun R w' => .inl ⟨rfl, rfl⟩)
  by_cases k6 : vk = 6
  · subst k6
    have : vn = 0 ∧ vs = [] ∧ vK = [] ∧ vL = [] := by simp [bareB] at q4; simpa [and_assoc] using q4
    obtain ⟨rfl, rfl, rfl, rfl⟩ := this
    exact (take_unknown q n a2 a3 a4 p2 p3 p4 deep w hq hc hn' hD1).mono (took_leaf hD1 hn' (by simp [shapeB, bareB]) fun R w' => .inr (.inl ⟨rfl, rfl⟩))
  by_cases k1 : vk = 1
  · subst k1
    have : vs = [] ∧ vK = [] ∧ vL = [] := by simp [bareB] at q4; simpa [and_assoc] using q4
    obtain ⟨rfl, rfl, rfl⟩ := this
    by_cases v0 : vn = 0
    · subst v0
      exact (take_bool0 q n a2 a3 a4 p2 p3 p4 deep w hq hc hn' hD1).mono (took_leaf hD1 hn' (by simp [shapeB, bareB]) fun R w' => .inr (.inr (.inl ⟨rfl, rfl⟩)))
    by_cases v1 : vn = 1
    · subst v1
      exact (take_bool1 q n a2 a3 a4 p2 p3 p4 deep w hq hc hn' hD1).mono (took_leaf hD1 hn' (by simp [shapeB, bareB]) fun R w' => .inr (.inr (.inl ⟨rfl, rfl⟩)))
    · exact (take_boolno q n vn v0 v1 a2 a3 a4 p2 p3 p4 deep w hq hc hn' hD1).mono (no_take (bad_shape (by simp [shapeB, bareB, v0, v1])))
  by_cases k2 : vk = 2
  · subst k2
    have : vs = [] ∧ vK = [] ∧ vL = [] := by simp [bareB] at q4; simpa [and_assoc] using q4
    obtain ⟨rfl, rfl, rfl⟩ := this
    by_cases v0 : -1000000000000 ≤ vn
    · by_cases v1 : vn ≤ 1000000000000
      · exact (take_int q n vn v0 v1 a2 a3 a4 p2 p3 p4 deep w hq hc hn' hD1).mono (took_leaf hD1 hn' (by simp [shapeB, bareB, intB, v0, v1]) fun R w' => .inr (.inr (.inr (.inl ⟨rfl, rfl⟩))))
      · exact (take_inthigh q n vn v0 v1 a2 a3 a4 p2 p3 p4 deep w hq hc hn' hD1).mono (no_take (bad_shape (by simp [shapeB, bareB, intB, v1])))
    · exact (take_intlow q n vn v0 a2 a3 a4 p2 p3 p4 deep w hq hc hn' hD1).mono (no_take (bad_shape (by simp [shapeB, bareB, intB, v0])))
  by_cases k3 : vk = 3
  · subst k3
    have : vn = 0 ∧ vK = [] ∧ vL = [] := by simp [bareB] at q4; simpa [and_assoc] using q4
    obtain ⟨rfl, rfl, rfl⟩ := this
    cases htb : textB vs with
    | true => exact (take_text q n N vs hNq a2 a3 a4 p2 p3 p4 deep w hq hc hn' hD1 HT htb).mono (took_leaf hD1 hn' (by simp [shapeB, bareB, htb]) fun R w' => .inr (.inr (.inr (.inr (.inl ⟨rfl, rfl⟩)))))
    | false => exact (take_textno q n N vs hNq a2 a3 a4 p2 p3 p4 deep w hq hc hn' hD1 HT htb).mono (no_take (bad_shape (by simp [shapeB, bareB, htb])))
  by_cases k4 : vk = 4
  · subst k4
    have : vn = 0 ∧ vs = [] ∧ vK = [] := by simp [bareB] at q4; simpa [and_assoc] using q4
    obtain ⟨rfl, rfl, rfl⟩ := this
    exact take_list d ih N q n _ vL a2 a3 p2 p3 deep w HL hNq hq hc hn' hD1
  by_cases k5 : vk = 5
  · subst k5
    have : vn = 0 ∧ vs = [] := by simp [bareB] at q4; simpa [and_assoc] using q4
    obtain ⟨rfl, rfl⟩ := this
    exact take_map d ih N q n _ _ vK vL a2 p2 deep w HK HL hNq hq hc hn' hD1
  · have : vn = 0 ∧ vs = [] ∧ vK = [] ∧ vL = [] := by simp [bareB, k1, k2, k3, k4, k5] at q4; simpa [and_assoc] using q4
    obtain ⟨rfl, rfl, rfl, rfl⟩ := this
    exact (take_none q n vk k0 k1 k2 k3 k4 k5 k6 a2 a3 a4 p2 p3 p4 deep w hq hc hn' hD1).mono (no_take (bad_shape (by simp [shapeB, bareB, k0, k1, k2, k3, k4, k5, k6])))

theorem take_any (d : Nat) : TakeAt d := by
  induction d with
  | zero => intro N q n c v deep w hv; exact hv.elim
  | succ d ih => exact take_succ d ih

/-- What partOf says. -/
def PartEnd (d : Nat) (v : Vl d) (w : World) (e : Ending) (w' : World) : Prop :=
  Below w.heap.size w w' ∧ ((∃ p, e = .returned (.tuple #[p, .bool true]) ∧ okB d v = true ∧ PSeg (fun b => w.heap.size ≤ b ∧ b < w'.heap.size) w' d p v) ∨ (e = .returned (.tuple #[.nilIface, .bool false]) ∧ okB d v = false))

set_option maxHeartbeats 1600000 in
theorem partOf_any (d N : Nat) (c0 c1 c2 c3 c4 : Value) (v : Vl d) (w : World) (hv : VSeg (fun b => b < N) w d (c0, c1, c2, c3, c4) v) (hN : N ≤ w.heap.size) :
    Calls Try.prog 26 #[.agg #[c0, c1, c2, c3, c4]] w (PartEnd d v w) := by
  have b0 : ∀ o o' : Obj, Below w.heap.size w ((w.alloc o).alloc o') := fun o o' => ((Below.refl _ _).alloc (Nat.le_refl _) o).alloc (by simp) o'
  have HC : Hid (∀ o : Obj, Calls Try.prog 39 #[.pointer (some ⟨w.heap.size + 1, 0, none⟩), .agg #[c0, c1, c2, c3, c4], .int .i64 1] ((w.alloc o).alloc (.cells #[.int .i64 0] 72)) (TakeEnd d v 1 0 (w.heap.size + 1) ((w.alloc o).alloc (.cells #[.int .i64 0] 72)))) := fun o =>
    take_any d N (w.heap.size + 1) 0 (c0, c1, c2, c3, c4) v 1 ((w.alloc o).alloc (.cells #[.int .i64 0] 72)) (VSeg.agree (agree_below ((b0 o _).mono hN)) d hv) (by omega) (by rw [size2]; omega) (two_boxes w o _).2 (by omega) (by omega)
  have Hb := hide' b0
  have hsz := fun o o' => size2 w o o'
  have Hsz := hide' hsz
  clear b0 hsz
  go_enter Try.func26, Try.ntmps26
  go_wp2_with fail
  refine (HC.out _).mono ?_
  rintro e w1 ⟨hg1, hcase⟩
  have hB1 := (Hb.out _ _).grown hg1 (by rw [Hsz.out]; omega) (by intro j hj; simp at hj; omega)
  rcases hcase with ⟨p, rfl, h1, h2, h3, h4⟩ | ⟨rfl, hno⟩
  · have hE : Hid (okB d v = true ∧ PSeg (fun b => w.heap.size ≤ b ∧ b < w1.heap.size) w1 d p v) := ⟨by simp [okB, h1]; omega, PSeg.carry (fun b hb => ⟨by have := hb.1; rw [Hsz.out] at this; omega, hb.2⟩) (fun b _ => rfl) d h4⟩
    clear h1 h2 h3 h4 hg1
    go_wp2
    go_ret2
    exact ⟨hB1, .inl ⟨_, rfl, hE.out⟩⟩
  · have hE : Hid (okB d v = false) := by
      show okB d v = false
      cases h : okB d v with
      | false => rfl
      | true => simp [okB] at h; exact absurd ⟨h.1, by omega⟩ hno
    clear hno hg1
    go_wp2
    go_ret2
    exact ⟨hB1, .inr ⟨rfl, hE.out⟩⟩

end Go.Proofs.Ytenfnbnhdmkhkaa
/-
  cmpFields, slices.CompareFunc over fields, cmpParts at lists and maps; cmpParts at every depth.
-/
namespace Go.Proofs.Ytenfnbnhdmkhkaa
open Go.RowKit
set_option linter.unusedVariables false
set_option linter.unusedSimpArgs false

/-- The order of two fields. -/
def fldC (d : Nat) (ka kb : List Int) (a b : Vl d) : Int := if bytesC ka kb ≠ 0 then bytesC ka kb else cmpV d a b

set_option maxHeartbeats 3200000 in
theorem cmpFields_any (d : Nat) (ih : CmpAt d) (N : Nat) (ka kb : List Int) (t1 t2 : TypeId) (x1 x2 : Value) (a b : Vl d) (deep deep' : Nat) (w : World) (hp : PSeg (fun b => b < N) w d (.iface t1 x1) a) (hq : PSeg (fun b => b < N) w d (.iface t2 x2) b) (hN : N ≤ w.heap.size) (ga : goodB d a deep = true) (gb : goodB d b deep' = true) (na : partsV d a ≤ 40) (nb : partsV d b ≤ 40) :
    Calls Try.prog 45 #[.agg #[.string (strOf ka), .iface t1 x1], .agg #[.string (strOf kb), .iface t2 x2]] w fun e w' => e = .returned (.int .i64 (fldC d ka kb a b)) ∧ Below w.heap.size w w' := by
  have Hb2 : Hid (∀ o o' : Obj, Below w.heap.size w ((w.alloc o).alloc o')) := fun o o' => ((Below.refl _ _).alloc (Nat.le_refl _) o).alloc (by simp) o'
  have HS := hide' (strings_Compare_any ka kb)
  have HE : Hid (∀ o o' : Obj, Calls Try.prog 27 #[.iface t1 x1, .iface t2 x2] ((w.alloc o).alloc o') fun e w' => e = .returned (.int .i64 (cmpV d a b)) ∧ Below w.heap.size w w') := by
    intro o o'
    have ag := agree_below ((Hb2.out o o').mono hN)
    refine (ih N _ _ a b deep deep' _ (PSeg.carry (fun b hb => hb) ag d hp) (PSeg.carry (fun b hb => hb) ag d hq) (by have := (Hb2.out o o').size; omega) ga gb na nb).mono fun e w' h => ⟨h.1, Below.on (Hb2.out o o') h.2⟩
  by_cases hbc : bytesC ka kb = 0
  · have HO : Hid (fldC d ka kb a b = cmpV d a b) := by show fldC d ka kb a b = _; simp [fldC, hbc]
    rw [hbc] at HS
    generalize cmpV d a b = cv at *
    generalize fldC d ka kb a b = ans at *
    generalize strOf ka = sa at *
    generalize strOf kb = sb at *
    clear hbc hp hq
    go_enter Try.func45, Try.ntmps45
    go_wp2_with fail
    refine (HS.out _).mono ?_
    rintro e w1 ⟨rfl, e1⟩
    obtain rfl := e1
    go_wp2_with fail
    refine (HE.out _ _).mono ?_
    rintro e w2 ⟨rfl, B2⟩
    go_wp2
    go_ret
    exact ⟨ret_i64 (by rw [HO.out]), B2⟩
  · have HO : Hid (fldC d ka kb a b = bytesC ka kb) := by show fldC d ka kb a b = _; simp [fldC, hbc]
    have hbc' : (bytesC ka kb != 0) = true := by simp [hbc]
    generalize bytesC ka kb = bc at *
    generalize fldC d ka kb a b = ans at *
    generalize strOf ka = sa at *
    generalize strOf kb = sb at *
    clear hp hq HE
    go_enter Try.func45, Try.ntmps45
    go_wp2_with fail
    refine (HS.out _).mono ?_
    rintro e w1 ⟨rfl, e1⟩
    obtain rfl := e1
    go_wp2
    go_ret
    exact ⟨ret_i64 (by rw [HO.out]), Hb2.out _ _⟩

theorem cmpK_fld {d : Nat} {aK bK : List (List Int)} {aL bL : List (Vl d)} {k : Nat} (ha : k < aL.length) (hb : k < bL.length) : cmpK true aK bK aL bL k = if fldC d (aK.getD k []) (bK.getD k []) aL[k] bL[k] ≠ 0 then fldC d (aK.getD k []) (bK.getD k []) aL[k] bL[k] else cmpK true aK bK aL bL (k + 1) := by
  rw [cmpK_step ha hb]
  unfold fldC
  generalize bytesC (aK.getD k []) (bK.getD k []) = bc
  by_cases h : bc = 0
  · simp [h]
  · simp [h]

/-- A row of fields, read place by place. -/
theorem FRow.at {w : World} {a : Option Addr} {n c : Nat} {vK : List (List Int)} {ps : List Value} {n' : Nat} (h : FRow w (.slice a n c) vK ps n') {k : Nat} (hk : k < n') : ∃ g, a = some ⟨g, 0, none⟩ ∧ g < w.heap.size ∧ w.cell? ⟨g, k * 2, none⟩ = some (.string (strOf (vK.getD k []))) ∧ w.cell? ⟨g, k * 2 + 1, none⟩ = some (ps.getD k .nilIface) := by
  obtain ⟨a', c', e, _, _, hc⟩ := h
  simp only [Value.slice.injEq] at e
  obtain ⟨rfl, _, _⟩ := e
  rcases hc with h0 | ⟨g, rfl, hg, hc⟩
  · omega
  · exact ⟨g, rfl, hg, (hc k hk).1, (hc k hk).2⟩

theorem FRow.grow {w w' : World} {u : Value} {vK : List (List Int)} {ps : List Value} {n : Nat} (h : FRow w u vK ps n) (hb : Below w.heap.size w w') : FRow w' u vK ps n := by
  obtain ⟨a, c, e, h1, h2, hc⟩ := h
  refine ⟨a, c, e, h1, h2, ?_⟩
  rcases hc with h0 | ⟨g, rfl, hg, hc⟩
  · exact .inl h0
  · exact .inr ⟨g, rfl, Nat.lt_of_lt_of_le hg hb.size, fun i hi => ⟨(World.cell?_of_block (hb.block g hg)).trans (hc i hi).1, (World.cell?_of_block (hb.block g hg)).trans (hc i hi).2⟩⟩

set_option maxHeartbeats 3200000 in
theorem cmpFuncF_any (d : Nat) (ih : CmpAt d) (N : Nat) (x y : Value) (l m : List (Vl d)) (aK bK : List (List Int)) (ps qs : List Value) (deep deep' : Nat) (w : World) (hx : FRow w x aK ps l.length) (hy : FRow w y bK qs m.length) (hN : N ≤ w.heap.size)
    (hps : ∀ k (h : k < l.length), PSeg (fun b => b < N) w d (ps.getD k .nilIface) l[k]) (hqs : ∀ k (h : k < m.length), PSeg (fun b => b < N) w d (qs.getD k .nilIface) m[k])
    (gl : ∀ k (h : k < l.length), goodB d l[k] deep = true ∧ partsV d l[k] ≤ 40) (gm : ∀ k (h : k < m.length), goodB d m[k] deep' = true ∧ partsV d m[k] ≤ 40) (hl40 : l.length ≤ 40) (hm40 : m.length ≤ 40) :
    Calls Try.prog 43 #[x, y, .func (.func 45) #[] #[]] w fun e w' => e = .returned (.int .i64 (cmpK true aK bK l m 0)) ∧ Below w.heap.size w w' := by
  have HC := hide' hx
  have HC' := hide' hy
  obtain ⟨a, cap, rfl, _, _, hc⟩ := hx
  obtain ⟨a', cap', rfl, _, _, hc'⟩ := hy
  have HI := hide' ih
  have HA := hide' gl
  have HA' := hide' gm
  have HPs := hide' hps
  have HQs := hide' hqs
  generalize hans : cmpK true aK bK l m 0 = ans
  have HO : Hid (ans = cmpK true aK bK l m 0) := hans.symm
  clear hc hc' gl gm ih hans hps hqs
  go_enter Try.func43, Try.ntmps43
  go_wp2
  go_loopw [7, 10, 13] (fun _ _ i wr => ∃ k : Nat, k ≤ l.length ∧ k ≤ m.length ∧ i = .int .i64 k ∧ ans = cmpK true aK bK l m k ∧ Below w.heap.size w wr) (fun _ _ i _ => l.length - (intOf i).toNat)
  case atStart => exact ⟨0, Nat.zero_le _, Nat.zero_le _, rfl, HO.out, Below.refl _ _⟩
  case round =>
    obtain ⟨k, hk, hk', rfl, hP, hbel⟩ := hrel
    have hsz2 := hbel.size
    by_cases hlt : k < l.length
    · obtain ⟨g, rfl, hg, q0, q1⟩ := (HC.out.grow hbel).at hlt
      have hv := PSeg.carry (fun b hb => hb) (agree_below (hbel.mono hN)) d (HPs.out k hlt)
      obtain ⟨t1, x1, e1⟩ := hv.shape
      rw [e1] at q1 hv
      have hlt' : (k : Int) < (l.length : Int) := by omega
      have Hb1 : Hid (∀ o : Obj, Below w.heap.size w (wr.alloc o)) := fun o => Below.on hbel ((Below.refl _ _).alloc (Nat.le_refl _) o)
      by_cases hlt2 : k < m.length
      · obtain ⟨g', rfl, hg', r0, r1⟩ := (HC'.out.grow hbel).at hlt2
        have hv' := PSeg.carry (fun b hb => hb) (agree_below (hbel.mono hN)) d (HQs.out k hlt2)
        obtain ⟨t2, x2, e2⟩ := hv'.shape
        rw [e2] at r1 hv'
        have hlt2' : ¬ (m.length : Int) ≤ (k : Int) := by omega
        have hlt3' : (k : Int) < (m.length : Int) := by omega
        have r0A : ∀ o : Obj, (wr.alloc o).cell? ⟨g', k * 2, none⟩ = some (.string (strOf (bK.getD k []))) := fun o => (World.cell?_of_block (((Below.refl _ _).alloc (Nat.le_refl _) o : Below wr.heap.size wr (wr.alloc o)).block g' hg')).trans r0
        have r1A : ∀ o : Obj, (wr.alloc o).cell? ⟨g', k * 2 + 1, none⟩ = some (.iface t2 x2) := fun o => (World.cell?_of_block (((Below.refl _ _).alloc (Nat.le_refl _) o : Below wr.heap.size wr (wr.alloc o)).block g' hg')).trans r1
        have hE : Hid (∀ o o' : Obj, Calls Try.prog 45 #[.agg #[.string (strOf (aK.getD k [])), .iface t1 x1], .agg #[.string (strOf (bK.getD k [])), .iface t2 x2]] ((wr.alloc o).alloc o') fun e w' => e = .returned (.int .i64 (fldC d (aK.getD k []) (bK.getD k []) l[k] m[k])) ∧ Below w.heap.size w w') := by
          intro o o'
          have b0 : Below wr.heap.size wr ((wr.alloc o).alloc o') := ((Below.refl _ _).alloc (Nat.le_refl _) o).alloc (by simp) o'
          have ag := agree_below (b0.mono (by omega : N ≤ wr.heap.size))
          exact (cmpFields_any d HI.out N _ _ t1 t2 x1 x2 l[k] m[k] deep deep' _ (PSeg.carry (fun b hb => hb) ag d hv) (PSeg.carry (fun b hb => hb) ag d hv') (by have := b0.size; omega) (HA.out k hlt).1 (HA'.out k hlt2).1 (HA.out k hlt).2 (HA'.out k hlt2).2).mono fun e w' h => ⟨h.1, Below.on (Below.on hbel b0) h.2⟩
        rw [cmpK_fld hlt hlt2] at hP
        have HP := hide' hP
        clear hP hv hv' r0 r1 e1 e2
        generalize fldC d (aK.getD k []) (bK.getD k []) l[k] m[k] = sc at *
        generalize strOf (aK.getD k []) = sa at *
        generalize strOf (bK.getD k []) = sb at *
        by_cases h0 : sc = 0
        · subst h0
          have HP' : Hid (ans = cmpK true aK bK l m (k + 1)) := by show ans = _; rw [HP.out]; simp
          clear HP
          go_wp2_with fail
          refine (hE.out _ _).mono ?_
          rintro e w1 ⟨rfl, B1⟩
          clear q0 q1 r0A r1A
          go_wp2
          go_roundw
          case rel => exact ⟨k + 1, by omega, by omega, by go_num, HP'.out, B1⟩
          case measure => simp [intOf]; omega
        · have HP' : Hid (ans = sc) := by show ans = _; rw [HP.out]; simp [h0]
          have h0' : (sc != 0) = true := by simp [h0]
          clear HP
          go_wp2_with fail
          refine (hE.out _ _).mono ?_
          rintro e w1 ⟨rfl, B1⟩
          clear q0 q1 r0A r1A
          go_wp2
          go_ret
          exact ⟨ret_i64 (by rw [HP'.out]), B1⟩
      · have hlt2' : (m.length : Int) ≤ (k : Int) := by omega
        rw [cmpK_end1 hlt hlt2] at hP
        have HP := hide' hP
        clear hP hv
        generalize strOf (aK.getD k []) = sa at *
        go_wp2
        go_ret
        exact ⟨ret_i64 (by rw [HP.out]), Hb1.out _⟩
    · have hlt' : ¬ (k : Int) < (l.length : Int) := by omega
      have hkl : k = l.length := by omega
      by_cases hlt2 : k < m.length
      · rw [cmpK_end2 hlt hlt2] at hP
        have HP := hide' hP
        have hlm : (l.length : Int) < (m.length : Int) := by omega
        clear hP hkl
        go_wp2
        go_ret
        exact ⟨ret_i64 (by rw [HP.out]), hbel⟩
      · rw [cmpK_end3 hlt hlt2] at hP
        have HP := hide' hP
        have hlm : ¬ (l.length : Int) < (m.length : Int) := by omega
        clear hP hkl
        go_wp2
        go_ret
        exact ⟨ret_i64 (by rw [HP.out]), hbel⟩

set_option maxHeartbeats 3200000 in
set_option maxRecDepth 100000 in
theorem cmp_listPart (d : Nat) (ih : CmpAt d) (N : Nat) (a1 a2 : Option Addr) (c1 c2 : Nat) (l m : List (Vl d)) (aK bK : List (List Int)) (deep deep' : Nat) (w : World) (hx : PLSeg (fun b => b < N) w d (.slice a1 l.length c1) l) (hy : PLSeg (fun b => b < N) w d (.slice a2 m.length c2) m) (hN : N ≤ w.heap.size)
    (gl : ∀ k (h : k < l.length), goodB d l[k] deep = true ∧ partsV d l[k] ≤ 40) (gm : ∀ k (h : k < m.length), goodB d m[k] deep' = true ∧ partsV d m[k] ≤ 40) (hl40 : l.length ≤ 40) (hm40 : m.length ≤ 40) :
    Calls Try.prog 27 #[.iface 84 (.agg #[.slice a1 l.length c1]), .iface 84 (.agg #[.slice a2 m.length c2])] w fun e w' => e = .returned (.int .i64 (cmpK false aK bK l m 0)) ∧ Below w.heap.size w w' := by
  have HF : Hid (∀ wx, Below w.heap.size w wx → Calls Try.prog 42 #[.slice a1 l.length c1, .slice a2 m.length c2, .func (.func 27) #[] #[]] wx fun e w' => e = .returned (.int .i64 (cmpK false aK bK l m 0)) ∧ Below w.heap.size w w') := fun wx hb =>
    (cmpFuncP_any d ih N _ _ l m aK bK deep deep' wx (hx.agree (agree_below (hb.mono hN))) (hy.agree (agree_below (hb.mono hN))) (by have := hb.size; omega) gl gm hl40 hm40).mono fun e w' h => ⟨h.1, Below.on hb h.2⟩
  clear hx hy gl gm ih
  generalize cmpK false aK bK l m 0 = ans at *
  generalize l.length = n1 at *
  generalize m.length = n2 at *
  have m1 := meth_listPart (.agg #[.slice a1 n1 c1])
  have m2 := meth_listPart (.agg #[.slice a2 n2 c2])
  have HK := hide' (kind_listPart a1 n1 c1)
  have HK2 := hide' (kind_listPart a2 n2 c2)
  have t1 := no_bool_listPart (.agg #[.slice a1 n1 c1])
  have t2 := no_int_listPart (.agg #[.slice a1 n1 c1])
  have t3 := no_text_listPart (.agg #[.slice a1 n1 c1])
  have ty := yes_listPart (.agg #[.slice a1 n1 c1])
  have tm := must_listPart (.agg #[.slice a2 n2 c2])
  have tf := fld_listPart (.slice a2 n2 c2)
  have HC := hide' (fun a => cmpInt_any a a)
  have HZ := hide' numC_eq
  have Hb : Hid (∀ (wx : World) (o : Obj), Below wx.heap.size wx (wx.alloc o)) := fun wx o => (Below.refl _ _).alloc (Nat.le_refl _) o
  go_enter Try.func27, Try.ntmps27
  go_wp2_with fail
  refine (HK.out _).mono ?_
  rintro e w1 ⟨rfl, b1⟩
  go_wp2_with fail
  refine (HK2.out _).mono ?_
  rintro e w2 ⟨rfl, b2⟩
  have B2 := hide' (Below.on b1 b2)
  clear b1 b2
  go_wp2_with fail
  refine (HC.out _ _).mono ?_
  rw [HZ.out]
  rintro e w3 ⟨rfl, e3⟩
  obtain rfl := e3
  go_wp2_with fail
  go_region_with (go_at_call 42; refine (HF.out _ (Below.on B2.out (Hb.out _ _)).drew).mono ?_; rintro e w4 ⟨rfl, B4⟩)
  all_goals
    go_wp2
    go_ret
    exact ⟨rfl, B4⟩

set_option maxHeartbeats 3200000 in
set_option maxRecDepth 100000 in
theorem cmp_mapPart (d : Nat) (ih : CmpAt d) (N : Nat) (b1 b2 : Nat) (l m : List (Vl d)) (aK bK : List (List Int)) (ps qs : List Value) (deep deep' : Nat) (w : World) (hb1 : b1 < N) (hb2 : b2 < N)
    (hm1 : w.ownsMap Try.prog 9 tokR b1 64 (mapD aK ps l.length)) (hm2 : w.ownsMap Try.prog 9 tokR b2 64 (mapD bK qs m.length)) (ha : ∀ i, i < l.length → stepB aK i = true) (hb : ∀ i, i < m.length → stepB bK i = true) (hN : N ≤ w.heap.size)
    (hps : ∀ k (h : k < l.length), PSeg (fun b => b < N) w d (ps.getD k .nilIface) l[k]) (hqs : ∀ k (h : k < m.length), PSeg (fun b => b < N) w d (qs.getD k .nilIface) m[k])
    (gl : ∀ k (h : k < l.length), goodB d l[k] deep = true ∧ partsV d l[k] ≤ 40) (gm : ∀ k (h : k < m.length), goodB d m[k] deep' = true ∧ partsV d m[k] ≤ 40) (hl40 : l.length ≤ 40) (hm40 : m.length ≤ 40) :
    Calls Try.prog 27 #[.iface 60 (.agg #[.map (some b1)]), .iface 60 (.agg #[.map (some b2)])] w fun e w' => e = .returned (.int .i64 (cmpK true aK bK l m 0)) ∧ Below w.heap.size w w' := by
  have HF1 : Hid (∀ wx, Below w.heap.size w wx → Calls Try.prog 44 #[.agg #[.map (some b1)]] wx fun e w' => ∃ p c, e = .returned (.slice p l.length c) ∧ Hid (FRow w' (.slice p l.length c) aK ps l.length) ∧ Below wx.heap.size wx w') := fun wx hx => by
    refine (fields_any b1 l.length aK ps wx (ownsMap_agree hm1 (agree_below (hx.mono hN)) hb1) ha (fun i hi => (hps i hi).shape) hl40).mono ?_
    rintro e w' ⟨u, rfl, hF, hbb⟩
    have hF' := hF
    obtain ⟨p, c, rfl, _⟩ := hF
    exact ⟨p, c, rfl, hF', hbb⟩
  have HF2 : Hid (∀ wx, Below w.heap.size w wx → Calls Try.prog 44 #[.agg #[.map (some b2)]] wx fun e w' => ∃ p c, e = .returned (.slice p m.length c) ∧ Hid (FRow w' (.slice p m.length c) bK qs m.length) ∧ Below wx.heap.size wx w') := fun wx hx => by
    refine (fields_any b2 m.length bK qs wx (ownsMap_agree hm2 (agree_below (hx.mono hN)) hb2) hb (fun i hi => (hqs i hi).shape) hm40).mono ?_
    rintro e w' ⟨u, rfl, hF, hbb⟩
    have hF' := hF
    obtain ⟨p, c, rfl, _⟩ := hF
    exact ⟨p, c, rfl, hF', hbb⟩
  have HF3 : Hid (∀ wx x y, Below w.heap.size w wx → FRow wx x aK ps l.length → FRow wx y bK qs m.length → Calls Try.prog 43 #[x, y, .func (.func 45) #[] #[]] wx fun e w' => e = .returned (.int .i64 (cmpK true aK bK l m 0)) ∧ Below w.heap.size w w') := fun wx x y hx h1 h2 =>
    (cmpFuncF_any d ih N x y l m aK bK ps qs deep deep' wx h1 h2 (by have := hx.size; omega) (fun k h => PSeg.carry (fun b hb => hb) (agree_below (hx.mono hN)) d (hps k h)) (fun k h => PSeg.carry (fun b hb => hb) (agree_below (hx.mono hN)) d (hqs k h)) gl gm hl40 hm40).mono fun e w' h => ⟨h.1, Below.on hx h.2⟩
  clear hm1 hm2 ha hb hps hqs gl gm ih
  generalize cmpK true aK bK l m 0 = ans at *
  have m1 := meth_mapPart (.agg #[.map (some b1)])
  have m2 := meth_mapPart (.agg #[.map (some b2)])
  have HK := hide' (kind_mapPart b1)
  have HK2 := hide' (kind_mapPart b2)
  have t1 := no_bool_mapPart (.agg #[.map (some b1)])
  have t2 := no_int_mapPart (.agg #[.map (some b1)])
  have t3 := no_text_mapPart (.agg #[.map (some b1)])
  have t4 := no_list_mapPart (.agg #[.map (some b1)])
  have ty := yes_mapPart (.agg #[.map (some b1)])
  have tm := must_mapPart (.agg #[.map (some b2)])
  have HC := hide' (fun a => cmpInt_any a a)
  have HZ := hide' numC_eq
  have Hb : Hid (∀ (wx : World) (o : Obj), Below wx.heap.size wx (wx.alloc o)) := fun wx o => (Below.refl _ _).alloc (Nat.le_refl _) o
  go_enter Try.func27, Try.ntmps27
  go_wp2_with fail
  refine (HK.out _).mono ?_
  rintro e w1 ⟨rfl, c1⟩
  go_wp2_with fail
  refine (HK2.out _).mono ?_
  rintro e w2 ⟨rfl, c2⟩
  have B2 := hide' (Below.on c1 c2)
  clear c1 c2
  go_wp2_with fail
  refine (HC.out _ _).mono ?_
  rw [HZ.out]
  rintro e w3 ⟨rfl, e3⟩
  obtain rfl := e3
  go_wp2_with fail
  go_region_with (first
    | (go_at_call_of 44 b1; refine (HF1.out _ (Below.on B2.out (Hb.out _ _)).drew).mono ?_; rintro e w4 ⟨p1, q1, rfl, hR1, d1⟩; have D1 := Below.on (Below.on B2.out (Hb.out _ _)).drew d1)
    | (go_at_call_of 44 b2; refine (HF2.out _ D1).mono ?_; rintro e w5 ⟨p2, q2, rfl, hR2, d2⟩; have D2 := Below.on D1 d2; have hR3 := hide' (hR1.out.grow d2))
    | (go_at_call 43; refine (HF3.out _ _ _ D2 hR3.out hR2.out).mono ?_; rintro e w6 ⟨rfl, D3⟩))
  all_goals
    go_wp2
    go_ret
    exact ⟨rfl, D3⟩

end Go.Proofs.Ytenfnbnhdmkhkaa
/-
  cmpParts of the program at every depth.
-/
namespace Go.Proofs.Ytenfnbnhdmkhkaa
open Go.RowKit
set_option linter.unusedVariables false
set_option linter.unusedSimpArgs false

theorem cmpK_nil {d : Nat} (m : Bool) (aK bK : List (List Int)) {aL bL : List (Vl d)} (h : aL.length = 0) (h' : bL.length = 0) : cmpK m aK bK aL bL 0 = 0 := cmpK_end3 (by omega) (by omega)

theorem shape_none {vk vn : Int} {vs : List Int} {vK : List (List Int)} {n : Nat} (h : shapeB vk vn vs vK n = true) (h4 : vk ≠ 4) (h5 : vk ≠ 5) : n = 0 := by
  unfold shapeB bareB at h
  simp [h4, h5] at h
  exact h.1.2
theorem shape_num {vk vn : Int} {vs : List Int} {vK : List (List Int)} {n : Nat} (h : shapeB vk vn vs vK n = true) (h1 : vk ≠ 1) (h2 : vk ≠ 2) : vn = 0 := by
  unfold shapeB bareB at h
  simp [h1, h2] at h
  exact h.1.1.1.1
theorem shape_asc {vn : Int} {vs : List Int} {vK : List (List Int)} {n : Nat} (h : shapeB 5 vn vs vK n = true) : vK.length = n ∧ ascB vK = true := by
  unfold shapeB at h
  simp at h
  exact h.2
theorem kid_le {d : Nat} {vk vn : Int} {vs : List Int} {vK : List (List Int)} {vL : List (Vl d)} (h : partsV (d + 1) (vk, vn, vs, vK, vL) ≤ 40) : vL.length ≤ 40 ∧ ∀ k (hk : k < vL.length), partsV d vL[k] ≤ 40 := by
  rw [parts_succ] at h
  refine ⟨by have := pre_ge d vL vL.length (Nat.le_refl _); omega, fun k hk => ?_⟩
  have h1 := pre_succ (partsV d) vL k hk
  have h2 := pre_le (partsV d) vL (k + 1)
  have h3 := pre_all (partsV d) vL
  omega

theorem as_ans {F : Nat} {args : Array Value} {w : World} {x y : Int} (e : y = x) (h : Calls Try.prog F args w fun e w' => e = .returned (.int .i64 x) ∧ Below w.heap.size w w') : Calls Try.prog F args w fun e w' => e = .returned (.int .i64 y) ∧ Below w.heap.size w w' := e ▸ h

theorem numC_self_of {a b : Int} (h : a = b) : numC a b = 0 := by rw [h]; exact numC_eq b

theorem cmpParts_succ (d : Nat) (ih : CmpAt d) : CmpAt (d + 1) := by
  intro N p q a b deep deep' w hp hq hN ga gb na nb
  obtain ⟨pt, px, rfl⟩ := hp.shape
  obtain ⟨qt, qx, rfl⟩ := hq.shape
  have k1 := kind_of hp
  have k2 := kind_of hq
  by_cases hk : a.1 = b.1
  · obtain ⟨ak, an, aS, aK, aL⟩ := a
    obtain ⟨bk, bn, bS, bK, bL⟩ := b
    simp only at hk
    subst hk
    have sa := ((good_succ _ _ _ _ _ _ _).1 ga).2.1
    have sb := ((good_succ _ _ _ _ _ _ _).1 gb).2.1
    have pa := ((good_succ _ _ _ _ _ _ _).1 ga).2.2
    have pb := ((good_succ _ _ _ _ _ _ _).1 gb).2.2
    obtain ⟨la, ka⟩ := kid_le na
    obtain ⟨lb, kb⟩ := kid_le nb
    have leafs : ak ≠ 3 → ak ≠ 4 → ak ≠ 5 → cmpV (d + 1) (ak, an, aS, aK, aL) (ak, bn, bS, bK, bL) = numC an bn := by
      intro h3 h4 h5
      by_cases hn : an = bn
      · exact ((cmpV_parts (d := d) (a := (ak, an, aS, aK, aL)) (b := (ak, bn, bS, bK, bL)) rfl h3 hn).trans (cmpK_nil _ _ _ (shape_none sa h4 h5) (shape_none sb h4 h5))).trans (numC_self_of hn).symm
      · exact cmpV_num (d := d) (a := (ak, an, aS, aK, aL)) (b := (ak, bn, bS, bK, bL)) rfl h3 hn
    rcases hp with ⟨e, ep⟩ | ⟨e, ep⟩ | ⟨e, ep⟩ | ⟨e, ep⟩ | ⟨e, ep⟩ | ⟨e, a1, c1, ep, hc1⟩ | ⟨e, b1, ps, ep, hR1, hm1, hc1⟩ <;> simp only at e <;> subst e <;> simp only [Value.iface.injEq] at ep <;> obtain ⟨rfl, rfl⟩ := ep
    · rcases hq with ⟨e, eq⟩ | ⟨e, eq⟩ | ⟨e, eq⟩ | ⟨e, eq⟩ | ⟨e, eq⟩ | ⟨e, a2, c2, eq, hc2⟩ | ⟨e, b2, qs, eq, hR2, hm2, hc2⟩ <;> simp at e
      simp only [Value.iface.injEq] at eq
      obtain ⟨rfl, rfl⟩ := eq
      exact as_ans ((leafs (by omega) (by omega) (by omega)).trans (numC_self_of (by rw [shape_num sa (by omega) (by omega), shape_num sb (by omega) (by omega)]))) (cmp_nullPart w)
    · rcases hq with ⟨e, eq⟩ | ⟨e, eq⟩ | ⟨e, eq⟩ | ⟨e, eq⟩ | ⟨e, eq⟩ | ⟨e, a2, c2, eq, hc2⟩ | ⟨e, b2, qs, eq, hR2, hm2, hc2⟩ <;> simp at e
      simp only [Value.iface.injEq] at eq
      obtain ⟨rfl, rfl⟩ := eq
      exact as_ans ((leafs (by omega) (by omega) (by omega)).trans (numC_self_of (by rw [shape_num sa (by omega) (by omega), shape_num sb (by omega) (by omega)]))) (cmp_unknownPart w)
    · rcases hq with ⟨e, eq⟩ | ⟨e, eq⟩ | ⟨e, eq⟩ | ⟨e, eq⟩ | ⟨e, eq⟩ | ⟨e, a2, c2, eq, hc2⟩ | ⟨e, b2, qs, eq, hR2, hm2, hc2⟩ <;> simp at e
      simp only [Value.iface.injEq] at eq
      obtain ⟨rfl, rfl⟩ := eq
      exact as_ans (leafs (by omega) (by omega) (by omega)) (cmp_boolPart an bn w)
    · rcases hq with ⟨e, eq⟩ | ⟨e, eq⟩ | ⟨e, eq⟩ | ⟨e, eq⟩ | ⟨e, eq⟩ | ⟨e, a2, c2, eq, hc2⟩ | ⟨e, b2, qs, eq, hR2, hm2, hc2⟩ <;> simp at e
      simp only [Value.iface.injEq] at eq
      obtain ⟨rfl, rfl⟩ := eq
      exact as_ans (leafs (by omega) (by omega) (by omega)) (cmp_intPart an bn w)
    · rcases hq with ⟨e, eq⟩ | ⟨e, eq⟩ | ⟨e, eq⟩ | ⟨e, eq⟩ | ⟨e, eq⟩ | ⟨e, a2, c2, eq, hc2⟩ | ⟨e, b2, qs, eq, hR2, hm2, hc2⟩ <;> simp at e
      simp only [Value.iface.injEq] at eq
      obtain ⟨rfl, rfl⟩ := eq
      exact as_ans (cmpV_text (d := d) (a := (3, an, aS, aK, aL)) (b := (3, bn, bS, bK, bL)) rfl rfl) (cmp_textPart aS bS w)
    · rcases hq with ⟨e, eq⟩ | ⟨e, eq⟩ | ⟨e, eq⟩ | ⟨e, eq⟩ | ⟨e, eq⟩ | ⟨e, a2, c2, eq, hc2⟩ | ⟨e, b2, qs, eq, hR2, hm2, hc2⟩ <;> simp at e
      simp only [Value.iface.injEq] at eq
      obtain ⟨rfl, rfl⟩ := eq
      have hn : an = bn := by rw [shape_num sa (by omega) (by omega), shape_num sb (by omega) (by omega)]
      refine as_ans (cmpV_parts (d := d) (a := (4, an, aS, aK, aL)) (b := (4, bn, bS, bK, bL)) rfl (by simp) hn) ?_
      exact cmp_listPart d ih N a1 a2 c1 c2 aL bL aK bK (deep + 1) (deep' + 1) w ⟨a1, c1, rfl, hc1⟩ ⟨a2, c2, rfl, hc2⟩ hN (fun k h => ⟨pa k h, ka k h⟩) (fun k h => ⟨pb k h, kb k h⟩) la lb
    · rcases hq with ⟨e, eq⟩ | ⟨e, eq⟩ | ⟨e, eq⟩ | ⟨e, eq⟩ | ⟨e, eq⟩ | ⟨e, a2, c2, eq, hc2⟩ | ⟨e, b2, qs, eq, hR2, hm2, hc2⟩ <;> simp at e
      simp only [Value.iface.injEq] at eq
      obtain ⟨rfl, rfl⟩ := eq
      have hn : an = bn := by rw [shape_num sa (by omega) (by omega), shape_num sb (by omega) (by omega)]
      refine as_ans (cmpV_parts (d := d) (a := (5, an, aS, aK, aL)) (b := (5, bn, bS, bK, bL)) rfl (by simp) hn) ?_
      obtain ⟨e1, as1⟩ := shape_asc sa
      obtain ⟨e2, as2⟩ := shape_asc sb
      exact cmp_mapPart d ih N b1 b2 aL bL aK bK ps qs (deep + 1) (deep' + 1) w hR1 hR2 hm1 hm2 (fun i hi => ascB_at as1 (by omega)) (fun i hi => ascB_at as2 (by omega)) hN hc1 hc2 (fun k h => ⟨pa k h, ka k h⟩) (fun k h => ⟨pb k h, kb k h⟩) la lb
  · exact as_ans (cmpV_kind hk) (cmp_kinds k1 k2 hk w)

theorem cmpParts_any (d : Nat) : CmpAt d := by
  induction d with
  | zero => intro N p q a b deep deep' w hv; exact hv.elim
  | succ d ih => exact cmpParts_succ d ih
end Go.Proofs.Ytenfnbnhdmkhkaa
