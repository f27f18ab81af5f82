/-
  Texts that a law leans on, one behind the other; no statement is proved here.
-/
import Derived.Test.YtenfnbnhdmkhkaaPk41
import Derived.Test.YtenfnbnhdmkhkaaPk39
import Derived.Test.YtenfnbnhdmkhkaaPk37
import Derived.Test.YtenfnbnhdmkhkaaPk30
/-
  ValKnown of the program: whether a value may be and has no part that is unknown; it turns nothing old. No statement is proved here.
-/
namespace Go.Proofs.Ytenfnbnhdmkhkaa
open Go.RowKit
set_option linter.unusedVariables false
set_option linter.unusedSimpArgs false

set_option maxHeartbeats 1600000 in
theorem impl_ValKnown_any (d N : Nat) (c0 c1 c2 c3 c4 : Value) (v : Vl d) (w : World) (hv : VSeg (fun b => b < N) w d (c0, c1, c2, c3, c4) v) (hN : N ≤ w.heap.size) :
    Calls Try.prog 14 #[.agg #[c0, c1, c2, c3, c4]] w fun e w' => e = .returned (.bool (ansValKnown d v)) ∧ Below w.heap.size w w' := by
  have b0 : ∀ o : Obj, Below w.heap.size w (w.alloc o) := fun o => (Below.refl _ _).alloc (Nat.le_refl _) o
  have HC : Hid (∀ o : Obj, Calls Try.prog 26 #[.agg #[c0, c1, c2, c3, c4]] (w.alloc o) (PartEnd d v (w.alloc o))) := fun o =>
    partOf_any d N c0 c1 c2 c3 c4 v (w.alloc o) (VSeg.agree (agree_below ((b0 o).mono hN)) d hv) (by have := (b0 o).size; omega)
  have Hb := hide' b0
  clear b0
  go_enter Try.func14, Try.ntmps14
  go_wp2_with fail
  refine (HC.out _).mono ?_
  rintro e w1 ⟨b1, hcase⟩
  have B1 := hide' (Below.on (Hb.out _) b1)
  rcases hcase with ⟨p, rfl, h1, h2⟩ | ⟨rfl, h1⟩
  · have hok := okB_cnt h1
    have HF : Hid (Calls Try.prog 35 #[p] w1 fun e w' => e = .returned (.bool (knownV d v)) ∧ Below w1.heap.size w1 w') := known_any d w1.heap.size p v 1 w1 (PSeg.carry (fun b hb => hb.2) (fun b _ => rfl) d h2) (Nat.le_refl _) hok.1 hok.2
    have H1 : Hid (ansValKnown d v = knownV d v) := by show ansValKnown d v = knownV d v; simp [ansValKnown, h1]
    clear b1 h1 h2 hok
    go_wp2_with fail
    refine HF.out.mono ?_
    rintro e w2 ⟨rfl, b2⟩
    have B2 := Below.on B1.out b2
    go_wp2
    go_ret
    exact ⟨by rw [H1.out]; rfl, B2⟩
  · have H1 : Hid (ansValKnown d v = false) := by show ansValKnown d v = false; simp [ansValKnown, h1]
    clear b1 h1
    go_wp2
    go_ret
    exact ⟨by rw [H1.out]; rfl, B1.out⟩
end Go.Proofs.Ytenfnbnhdmkhkaa
/-
  What FnSets is answered behind its draws, in every world that keeps all blocks. No statement is proved here.
-/
namespace Go.Proofs.Ytenfnbnhdmkhkaa
open Go.RowKit Go.Shelf
set_option linter.unusedVariables false
set_option linter.unusedSimpArgs false

/-- Two that can be read, the first one step deeper. -/
theorem rd_step {w : World} {c d : Value × Value × Value × Value × Value} (h1 : Rd w c) (h2 : Rd w d) : ∃ D, ∃ va : Vl (D + 1), ∃ vx : Vl D, VSeg (fun b => b < w.heap.size) w (D + 1) c va ∧ VSeg (fun b => b < w.heap.size) w D d vx := by
  obtain ⟨D1, v1, g1⟩ := h1
  obtain ⟨D2, v2, g2⟩ := h2
  obtain ⟨u1, k1⟩ := g1.at_least (D := D1 + D2 + 1) (by omega)
  obtain ⟨u2, k2⟩ := g2.at_least (D := D1 + D2) (by omega)
  exact ⟨_, u1, u2, k1, k2⟩

/-- A value and a truth that a call leaves, the value in blocks of its own. -/
def AnsE (D : Nat) (W : World) (v : Vl D) (bo : Bool) (wx : World) (e : Ending) (w' : World) : Prop :=
  Below W.heap.size W w' ∧ Below wx.heap.size wx w' ∧ ∃ (gk gn : Int) (s2 : Option Addr) (n2 r2 : Nat) (s3 : Option Addr) (n3 r3 : Nat) (s4 : Option Addr) (n4 r4 : Nat), e = .returned (.tuple #[.agg #[.int .i64 gk, .int .i64 gn, .slice s2 n2 r2, .slice s3 n3 r3, .slice s4 n4 r4], .bool bo]) ∧
    VSeg (fun b => wx.heap.size ≤ b ∧ b < w'.heap.size) w' D (.int .i64 gk, .int .i64 gn, .slice s2 n2 r2, .slice s3 n3 r3, .slice s4 n4 r4) v
theorem ansE_of {D : Nat} {W wx w' : World} {v : Vl (D + 1)} {bo : Bool} {e : Ending} (h : Below W.heap.size W wx) (ha : Ans D v bo wx e w') : AnsE (D + 1) W v bo wx e w' := by
  obtain ⟨u0, u1, u2, u3, u4, rfl, B, hO, hB, hk⟩ := ha
  obtain ⟨gk, gn, s2, n2, r2, s3, n3, r3, s4, n4, r4, rfl, rfl, rfl, rfl, rfl⟩ := VOwn.form (D + 1) hO
  exact ⟨below_out h hk, hk, gk, gn, s2, n2, r2, s3, n3, r3, s4, n4, r4, rfl, VSeg.mono (fun b hb => hB b hb) _ (VOwn.seg _ hO)⟩

theorem Std.set {D : Nat} {W : World} {ga gb : Nat} {a b : Value × Value × Value × Value × Value} {va : Vl (D + 1)} {vx : Vl D} {ka : Option Addr} {kc : Nat} {key : List Int} (ha : Std (D + 1) W ga a va) (hb : Std D W gb b vx) (hS : Seg W ka key) (hSb : ∀ x, ka = some x → key ≠ [] → x.block < W.heap.size) (hl : key.length ≤ 1048576) : ∀ wx, Below W.heap.size W wx →
    Calls Try.prog 13 #[av a, .slice ka key.length kc, av b] wx (AnsE (D + 1) W (setA D va key vx) (setF D va key vx) wx) := fun wx h =>
  (impl_ValSet_any D W.heap.size _ _ _ _ _ _ _ _ _ _ va vx ka kc key wx (ha.seg wx h) (hb.seg wx h) h.size (hS.below h hSb) (fun x hx hne => Nat.lt_of_lt_of_le (hSb x hx hne) h.size) hl).mono fun e w' he => ansE_of h he

theorem Std.drop {D : Nat} {W : World} {ga : Nat} {a : Value × Value × Value × Value × Value} {va : Vl (D + 1)} {ka : Option Addr} {kc : Nat} {key : List Int} (ha : Std (D + 1) W ga a va) (hS : Seg W ka key) (hSb : ∀ x, ka = some x → key ≠ [] → x.block < W.heap.size) (hl : key.length ≤ maxLen) : ∀ wx, Below W.heap.size W wx →
    Calls Try.prog 16 #[av a, .slice ka key.length kc] wx (AnsE (D + 1) W (dropA D va key) (dropF D va key) wx) := fun wx h =>
  (impl_ValDrop_any D W.heap.size _ _ _ _ _ va ka kc key wx (ha.seg wx h) h.size (hS.below h hSb) (fun x hx hne => Nat.lt_of_lt_of_le (hSb x hx hne) h.size) hl).mono fun e w' he => ansE_of h he

theorem Std.known {D : Nat} {W : World} {g : Nat} {a : Value × Value × Value × Value × Value} {va : Vl D} (ha : Std D W g a va) : ∀ wx, Below W.heap.size W wx →
    Calls Try.prog 14 #[av a] wx fun e w' => e = .returned (.bool (ansValKnown D va)) ∧ Below W.heap.size W w' := fun wx h =>
  (impl_ValKnown_any D W.heap.size _ _ _ _ _ va wx (ha.seg wx h) h.size).mono fun e w' ⟨he, hk⟩ => ⟨he, below_out h hk⟩

theorem Std.okI {D : Nat} {W : World} {g : Nat} {a : Value × Value × Value × Value × Value} {va : Vl D} (ha : Std D W g a va) : ∀ wx, Below W.heap.size W wx →
    Calls Try.prog 17 #[av a] wx fun e w' => e = .returned (.bool (okB D va)) ∧ Below W.heap.size W w' := fun wx h =>
  (impl_ValOk_any D W.heap.size _ _ _ _ _ va wx (ha.seg wx h) h.size).mono fun e w' ⟨he, hk⟩ => ⟨he, below_out h hk⟩

theorem same_segs {D : Nat} {W : World} {a b : Value × Value × Value × Value × Value} {va vb : Vl D} (ha : ∀ wx, Below W.heap.size W wx → VSeg (fun b => b < W.heap.size) wx D a va) (hb : ∀ wx, Below W.heap.size W wx → VSeg (fun b => b < W.heap.size) wx D b vb) : ∀ wx, Below W.heap.size W wx →
    Calls Try.prog 11 #[av a, av b] wx fun e w' => e = .returned (.bool (sameV D va vb)) ∧ Below W.heap.size W w' := fun wx h =>
  (same_any D W.heap.size _ _ _ _ _ _ _ _ _ _ va vb wx (ha wx h) (hb wx h) h.size).mono fun e w' ⟨he, hk⟩ => ⟨he, below_out h hk⟩

/-- The number one is known. -/
theorem known_one (W : World) : ∀ wx, Below W.heap.size W wx →
    Calls Try.prog 14 #[.agg #[.int .i64 2, .int .i64 1, .slice none 0 0, .slice none 0 0, .slice none 0 0]] wx fun e w' => e = .returned (.bool true) ∧ Below W.heap.size W w' := fun wx h =>
  (impl_ValKnown_any 1 wx.heap.size _ _ _ _ _ (2, 1, [], [], []) wx ((VSeg_succ _ _ _ _ _).2 ⟨rfl, rfl, ⟨none, 0, rfl, ⟨by simp, .inl rfl⟩, by simp, by simp, fun _ => rfl, by simp⟩, ⟨none, 0, rfl, by simp, by simp, fun _ => rfl, .inl rfl⟩, ⟨none, 0, rfl, by simp, by simp, fun _ => rfl, .inl rfl⟩⟩) (Nat.le_refl _)).mono fun e w' ⟨he, hk⟩ => ⟨by rw [he]; rfl, below_out h hk⟩

/-- The parts of a value that stands. -/
theorem parts_at {D : Nat} {W : World} {a : Option Addr} {n cap : Nat} {l : List (Vl D)} (h : LSeg (fun b => b < W.heap.size) W D (.slice a n cap) l) {j : Nat} (hj : j < l.length) :
    ∃ b off, a = some ⟨b, off, none⟩ ∧ ∀ i (hi : i < l.length), ∃ (gk gn : Int) (s2 : Option Addr) (n2 r2 : Nat) (s3 : Option Addr) (n3 r3 : Nat) (s4 : Option Addr) (n4 r4 : Nat), (∀ wx, Below W.heap.size W wx → Five wx b (off + i * 5) (.int .i64 gk, .int .i64 gn, .slice s2 n2 r2, .slice s3 n3 r3, .slice s4 n4 r4)) ∧
      ∀ wx, Below W.heap.size W wx → VSeg (fun b => b < W.heap.size) wx D (.int .i64 gk, .int .i64 gn, .slice s2 n2 r2, .slice s3 n3 r3, .slice s4 n4 r4) l[i] := by
  obtain ⟨a', cap', h1, h2, h3, h4, h5⟩ := h
  simp only [Value.slice.injEq] at h1
  obtain ⟨rfl, _, _⟩ := h1
  rcases h5 with h0 | ⟨b, off, rfl, hb, hc⟩
  · subst h0; simp at hj
  · refine ⟨b, off, rfl, fun i hi => ?_⟩
    obtain ⟨⟨e0, e1, e2, e3, e4⟩, h5, hv⟩ := hc i hi
    obtain ⟨gk, gn, s2, n2, r2, s3, n3, r3, s4, n4, r4, rfl, rfl, rfl, rfl, rfl⟩ := VSeg.form D hv
    refine ⟨gk, gn, s2, n2, r2, s3, n3, r3, s4, n4, r4, fun wx hx => ?_, fun wx hx => VSeg.agree (agree_below hx) D hv⟩
    obtain ⟨f0, f1, f2, f3, f4⟩ := h5
    have k : ∀ o, wx.cell? ⟨b, o, none⟩ = W.cell? ⟨b, o, none⟩ := fun o => hx.cell (p := ⟨b, o, none⟩) hb
    exact ⟨(k _).trans f0, (k _).trans f1, (k _).trans f2, (k _).trans f3, (k _).trans f4⟩

/-- What FnSets asks of a map in which nothing was put. -/
theorem set_no {D : Nat} {va : Vl (D + 1)} {key : List Int} {vx : Vl D} (h : setF D va key vx = false) : (setA D va key vx).2.2.2.2 = [] ∨ (setA D va key vx = va ∧ sameV (D + 1) va va = true) := by
  by_cases h1 : okB (D + 1) va = true ∧ va.1 = 5 ∧ okB D vx = true
  · by_cases h2 : okB (D + 1) (setV D va key vx) = true
    · have := (setA_yes h1.1 h1.2.1 h1.2.2 h2).2
      rw [h] at this
      exact absurd this (by simp)
    · exact .inr ⟨(setA_back h1.1 h1.2.1 h1.2.2 h2).1, same_true h1.1⟩
  · rw [(setA_no h1).1]
    exact .inl rfl

/-- All that FnSets asks of a key of the elder map. -/
theorem putd_get {D : Nat} {v y : Vl (D + 1)} {key : List Int} {x : Vl D} (h : Putd D v key x y) {i : Nat} (hi : i < v.2.2.2.2.length) :
    ∃ z, getF D y (v.2.2.2.1.getD i []) = some z ∧ (v.2.2.2.1.getD i [] ≠ key → sameV D z v.2.2.2.2[i] = true) := by
  obtain ⟨j, hj, h1, h2⟩ := h.all i hi
  exact ⟨_, getF_yes h.ok h.kind hj h1, fun hne => by rw [h2 hne]; exact same_true (h.kids i hi)⟩
theorem putd_at {D : Nat} {v y : Vl (D + 1)} {key : List Int} {x : Vl D} (h : Putd D v key x y) :
    ∃ z : Vl (D + 1), getF D y key = some x ∧ sameV D x x = true ∧ dropA D y key = z ∧ dropF D y key = true ∧ okB (D + 1) z = true ∧ getF D z key = none ∧ ansValKnown (D + 1) y = (ansValKnown D x && ansValKnown (D + 1) z) := by
  obtain ⟨k, hk, h1, h2, h3, h4, h5, h6, h7⟩ := h.at_
  refine ⟨dropV D y k, by rw [getF_yes h.ok h.kind hk h1, h2], same_true h.okX, h3, h4, h5, getF_no fun hh => ?_, ?_⟩
  · rw [h6] at hh
    exact absurd hh.2.2 (by decide)
  · unfold ansValKnown
    rw [h.ok, h.okX, h5, h7]
    rfl
end Go.Proofs.Ytenfnbnhdmkhkaa
/-
  A map, a key and a value that are drawn (DrawValSet). No statement is proved here.
-/
namespace Go.Proofs.Ytenfnbnhdmkhkaa
open Go.RowKit
set_option linter.unusedVariables false
set_option linter.unusedSimpArgs false

/-- A text that can be read, in blocks from B on. -/
def KyF (B : Nat) (w : World) (v : Value) : Prop := ∃ xs : List Int, TSeg (From B w) w v xs ∧ xs.length ≤ 100000
/-- A text that can be read. -/
def Ky (w : World) (v : Value) : Prop := ∃ xs : List Int, TSeg (fun b => b < w.heap.size) w v xs ∧ xs.length ≤ 100000
theorem KyF.on {B : Nat} {w w' : World} {v : Value} (h : KyF B w v) (ha : ∀ b, B ≤ b → b < w.heap.size → w'.heap[b]? = w.heap[b]?) (hz : w.heap.size ≤ w'.heap.size) : KyF B w' v := by
  obtain ⟨xs, hx, hl⟩ := h
  exact ⟨xs, TSeg.mono (TSeg.agree hx (fun b hb => ha b hb.1 hb.2)) (fun b hb => ⟨hb.1, Nat.lt_of_lt_of_le hb.2 hz⟩), hl⟩
theorem KyF.ky {B : Nat} {w : World} {v : Value} (h : KyF B w v) : Ky w v := by
  obtain ⟨xs, hx, hl⟩ := h
  exact ⟨xs, TSeg.mono hx (fun b hb => hb.2), hl⟩
theorem Ky.on {w w' : World} {v : Value} (h : Ky w v) (hb : Below w.heap.size w w') : Ky w' v := by
  obtain ⟨xs, hx, hl⟩ := h
  have hz := hb.size
  exact ⟨xs, TSeg.mono (TSeg.agree hx (agree_below hb)) (fun b h => by omega), hl⟩
theorem Hs.ky {B M M' : Nat} {rk : Nat → Nat} {w : World} {g : Nat} {a : Option Addr} {cap : Nat} {cs : List Int} {p : Nat → Prop} {v : Value} (h : Hs B M rk w g a cap cs) (hv : Sli B M' 5 1 p w v) (hM : M' ≤ 100000) : KyF B w v := by
  obtain ⟨xs, hx, hl⟩ := h.1.text hv
  exact ⟨xs, hx, by omega⟩

/-- What the draw leaves: a value, a key and a value that can be read. -/
def DrwSetEnd (w : World) (e : Ending) (w' : World) : Prop :=
  ∃ (ak an : Int) (a2 : Option Addr) (l2 p2 : Nat) (a3 : Option Addr) (l3 p3 : Nat) (a4 : Option Addr) (l4 p4 : Nat) (ka : Option Addr) (kn kc : Nat) (bk bn : Int) (b2 : Option Addr) (m2 q2 : Nat) (b3 : Option Addr) (m3 q3 : Nat) (b4 : Option Addr) (m4 q4 : Nat), e = .returned (.tuple #[.agg #[.int .i64 ak, .int .i64 an, .slice a2 l2 p2, .slice a3 l3 p3, .slice a4 l4 p4], .slice ka kn kc, .agg #[.int .i64 bk, .int .i64 bn, .slice b2 m2 q2, .slice b3 m3 q3, .slice b4 m4 q4]]) ∧ Rd w' (.int .i64 ak, .int .i64 an, .slice a2 l2 p2, .slice a3 l3 p3, .slice a4 l4 p4) ∧ Ky w' (.slice ka kn kc) ∧ Rd w' (.int .i64 bk, .int .i64 bn, .slice b2 m2 q2, .slice b3 m3 q3, .slice b4 m4 q4) ∧ Below w.heap.size w w'

section
variable {w wz : World} {ak an : Int} {a2 : Option Addr} {l2 p2 : Nat} {a3 : Option Addr} {l3 p3 : Nat} {a4 : Option Addr} {l4 p4 : Nat} {bk bn : Int} {b2 : Option Addr} {m2 q2 : Nat} {b3 : Option Addr} {m3 q3 : Nat} {b4 : Option Addr} {m4 q4 : Nat} {ka : Option Addr} {kn kc : Nat}
theorem sett_of {wf : World} (hA : RdF (w.heap.size + 2) wz (.int .i64 ak, .int .i64 an, .slice a2 l2 p2, .slice a3 l3 p3, .slice a4 l4 p4)) (hK : KyF (w.heap.size + 2) wz (.slice ka kn kc)) (hB : RdF (w.heap.size + 2) wz (.int .i64 bk, .int .i64 bn, .slice b2 m2 q2, .slice b3 m3 q3, .slice b4 m4 q4)) (hb : Below w.heap.size w wz) (ho : ∀ b, b ≠ w.heap.size → b ≠ w.heap.size + 1 → wf.heap[b]? = wz.heap[b]?) (h5 : wf.os = wz.os ∧ wf.tape = wz.tape ∧ wf.output = wz.output ∧ wf.heap.size = wz.heap.size) : DrwSetEnd w (.returned (.tuple #[.agg #[.int .i64 ak, .int .i64 an, .slice a2 l2 p2, .slice a3 l3 p3, .slice a4 l4 p4], .slice ka kn kc, .agg #[.int .i64 bk, .int .i64 bn, .slice b2 m2 q2, .slice b3 m3 q3, .slice b4 m4 q4]])) wf :=
  ⟨ak, an, a2, l2, p2, a3, l3, p3, a4, l4, p4, ka, kn, kc, bk, bn, b2, m2, q2, b3, m3, q3, b4, m4, q4, rfl, (hA.on (fun b h1 _ => ho b (by omega) (by omega)) (by omega)).rd, (hK.on (fun b h1 _ => ho b (by omega) (by omega)) (by omega)).ky, (hB.on (fun b h1 _ => ho b (by omega) (by omega)) (by omega)).rd, ⟨h5.1.trans hb.os, h5.2.1.trans hb.tape, h5.2.2.1.trans hb.output, by have := hb.size; omega, fun b hb' => (ho b (by omega) (by omega)).trans (hb.block b hb')⟩⟩
theorem sett_end (hA : RdF (w.heap.size + 2) wz (.int .i64 ak, .int .i64 an, .slice a2 l2 p2, .slice a3 l3 p3, .slice a4 l4 p4)) (hK : KyF (w.heap.size + 2) wz (.slice ka kn kc)) (hB : RdF (w.heap.size + 2) wz (.int .i64 bk, .int .i64 bn, .slice b2 m2 q2, .slice b3 m3 q3, .slice b4 m4 q4)) (hb : Below w.heap.size w wz) : DrwSetEnd w (.returned (.tuple #[.agg #[.int .i64 ak, .int .i64 an, .slice a2 l2 p2, .slice a3 l3 p3, .slice a4 l4 p4], .slice ka kn kc, .agg #[.int .i64 bk, .int .i64 bn, .slice b2 m2 q2, .slice b3 m3 q3, .slice b4 m4 q4]])) (set5 (set5 wz w.heap.size 0 (.int .i64 ak) (.int .i64 an) (.slice a2 l2 p2) (.slice a3 l3 p3) (.slice a4 l4 p4)) (w.heap.size + 1) 0 (.int .i64 bk) (.int .i64 bn) (.slice b2 m2 q2) (.slice b3 m3 q3) (.slice b4 m4 q4)) := by
  have h1 := set5_same wz w.heap.size 0 (.int .i64 ak) (.int .i64 an) (.slice a2 l2 p2) (.slice a3 l3 p3) (.slice a4 l4 p4)
  have o1 : ∀ b, b ≠ w.heap.size → (set5 wz w.heap.size 0 (.int .i64 ak) (.int .i64 an) (.slice a2 l2 p2) (.slice a3 l3 p3) (.slice a4 l4 p4)).heap[b]? = wz.heap[b]? := fun b hb => set5_other wz w.heap.size 0 (.int .i64 ak) (.int .i64 an) (.slice a2 l2 p2) (.slice a3 l3 p3) (.slice a4 l4 p4) b hb
  generalize set5 wz w.heap.size 0 (.int .i64 ak) (.int .i64 an) (.slice a2 l2 p2) (.slice a3 l3 p3) (.slice a4 l4 p4) = wa at *
  have h2 := set5_same wa (w.heap.size + 1) 0 (.int .i64 bk) (.int .i64 bn) (.slice b2 m2 q2) (.slice b3 m3 q3) (.slice b4 m4 q4)
  have o2 : ∀ b, b ≠ (w.heap.size + 1) → (set5 wa (w.heap.size + 1) 0 (.int .i64 bk) (.int .i64 bn) (.slice b2 m2 q2) (.slice b3 m3 q3) (.slice b4 m4 q4)).heap[b]? = wa.heap[b]? := fun b hb => set5_other wa (w.heap.size + 1) 0 (.int .i64 bk) (.int .i64 bn) (.slice b2 m2 q2) (.slice b3 m3 q3) (.slice b4 m4 q4) b hb
  generalize set5 wa (w.heap.size + 1) 0 (.int .i64 bk) (.int .i64 bn) (.slice b2 m2 q2) (.slice b3 m3 q3) (.slice b4 m4 q4) = wf at *
  exact sett_of hA hK hB hb (fun b n1 n2 => (o2 b n2).trans (o1 b n1)) ⟨h2.1.trans h1.1, h2.2.1.trans h1.2.1, h2.2.2.1.trans h1.2.2.1, h2.2.2.2.trans h1.2.2.2⟩
theorem sett_end2 (hA : RdF (w.heap.size + 2) wz (.int .i64 ak, .int .i64 an, .slice a2 l2 p2, .slice a3 l3 p3, .slice a4 l4 p4)) (hK : KyF (w.heap.size + 2) wz (.slice ka kn kc)) (hB : RdF (w.heap.size + 2) wz (.int .i64 bk, .int .i64 bn, .slice b2 m2 q2, .slice b3 m3 q3, .slice b4 m4 q4)) (hb : Below w.heap.size w wz) : DrwSetEnd w (.returned (.tuple #[.agg #[.int .i64 ak, .int .i64 an, .slice a2 l2 p2, .slice a3 l3 p3, .slice a4 l4 p4], .slice ka kn kc, .agg #[.int .i64 bk, .int .i64 bn, .slice b2 m2 q2, .slice b3 m3 q3, .slice b4 m4 q4]])) (set5 (set5 wz (w.heap.size + 1) 0 (.int .i64 bk) (.int .i64 bn) (.slice b2 m2 q2) (.slice b3 m3 q3) (.slice b4 m4 q4)) w.heap.size 0 (.int .i64 ak) (.int .i64 an) (.slice a2 l2 p2) (.slice a3 l3 p3) (.slice a4 l4 p4)) := by
  have h1 := set5_same wz (w.heap.size + 1) 0 (.int .i64 bk) (.int .i64 bn) (.slice b2 m2 q2) (.slice b3 m3 q3) (.slice b4 m4 q4)
  have o1 : ∀ b, b ≠ (w.heap.size + 1) → (set5 wz (w.heap.size + 1) 0 (.int .i64 bk) (.int .i64 bn) (.slice b2 m2 q2) (.slice b3 m3 q3) (.slice b4 m4 q4)).heap[b]? = wz.heap[b]? := fun b hb => set5_other wz (w.heap.size + 1) 0 (.int .i64 bk) (.int .i64 bn) (.slice b2 m2 q2) (.slice b3 m3 q3) (.slice b4 m4 q4) b hb
  generalize set5 wz (w.heap.size + 1) 0 (.int .i64 bk) (.int .i64 bn) (.slice b2 m2 q2) (.slice b3 m3 q3) (.slice b4 m4 q4) = wa at *
  have h2 := set5_same wa w.heap.size 0 (.int .i64 ak) (.int .i64 an) (.slice a2 l2 p2) (.slice a3 l3 p3) (.slice a4 l4 p4)
  have o2 : ∀ b, b ≠ w.heap.size → (set5 wa w.heap.size 0 (.int .i64 ak) (.int .i64 an) (.slice a2 l2 p2) (.slice a3 l3 p3) (.slice a4 l4 p4)).heap[b]? = wa.heap[b]? := fun b hb => set5_other wa w.heap.size 0 (.int .i64 ak) (.int .i64 an) (.slice a2 l2 p2) (.slice a3 l3 p3) (.slice a4 l4 p4) b hb
  generalize set5 wa w.heap.size 0 (.int .i64 ak) (.int .i64 an) (.slice a2 l2 p2) (.slice a3 l3 p3) (.slice a4 l4 p4) = wf at *
  exact sett_of hA hK hB hb (fun b n1 n2 => (o2 b n1).trans (o1 b n2)) ⟨h2.1.trans h1.1, h2.2.1.trans h1.2.1, h2.2.2.1.trans h1.2.2.1, h2.2.2.2.trans h1.2.2.2⟩
end

set_option maxHeartbeats 6400000 in
set_option maxRecDepth 100000 in
theorem DrawValSet_any (a : Option Addr) (cap : Nat) (cs : List Int) (w : World) (ha : Seg w a cs) (hl : cs.length ≤ maxLen) : Calls Try.prog 12 #[.slice a cs.length cap] w (DrwSetEnd w) := by
  have hb0 : Below w.heap.size w ((w.alloc (.cells #[.int .i64 0, .int .i64 0, .slice none 0 0, .slice none 0 0, .slice none 0 0] 26)).alloc (.cells #[.int .i64 0, .int .i64 0, .slice none 0 0, .slice none 0 0, .slice none 0 0] 26)) := ((Below.refl _ w).alloc (Nat.le_refl _) _).alloc (by simp) _
  have hR10 : ((w.alloc (.cells #[.int .i64 0, .int .i64 0, .slice none 0 0, .slice none 0 0, .slice none 0 0] 26)).alloc (.cells #[.int .i64 0, .int .i64 0, .slice none 0 0, .slice none 0 0, .slice none 0 0] 26)).heap[w.heap.size]? = some (.cells #[.int .i64 0, .int .i64 0, .slice none 0 0, .slice none 0 0, .slice none 0 0] 26) := (Below.heap_alloc _ _ _ (by simp)).trans (heap_alloc_new w _)
  have hR20 : ((w.alloc (.cells #[.int .i64 0, .int .i64 0, .slice none 0 0, .slice none 0 0, .slice none 0 0] 26)).alloc (.cells #[.int .i64 0, .int .i64 0, .slice none 0 0, .slice none 0 0, .slice none 0 0] 26)).heap[w.heap.size + 1]? = some (.cells #[.int .i64 0, .int .i64 0, .slice none 0 0, .slice none 0 0, .slice none 0 0] 26) := by
    have := heap_alloc_new (w.alloc (.cells #[.int .i64 0, .int .i64 0, .slice none 0 0, .slice none 0 0, .slice none 0 0] 26)) (.cells #[.int .i64 0, .int .i64 0, .slice none 0 0, .slice none 0 0, .slice none 0 0] 26)
    simpa using this
  have hN := l1New_hs 64 a cap cs ((w.alloc (.cells #[.int .i64 0, .int .i64 0, .slice none 0 0, .slice none 0 0, .slice none 0 0] 26)).alloc (.cells #[.int .i64 0, .int .i64 0, .slice none 0 0, .slice none 0 0, .slice none 0 0] 26)) (ha.grow hb0) hl
  simp only [World.size_alloc] at hN
  have HN := hide' hN
  have H0 := hide' (And.intro hb0 (And.intro hR10 hR20))
  clear hN hb0 hR10 hR20
  generalize cs.length = cl at *
  go_enter Try.func12, Try.ntmps12
  go_wp2_with fail
  refine HN.out.mono ?_
  rintro e w1 ⟨rfl, hS1, hB1⟩
  have HB1 : Hid (Below w.heap.size w w1) := hide' ⟨hB1.os.trans H0.out.1.os, hB1.tape.trans H0.out.1.tape, hB1.output.trans H0.out.1.output, by have := hB1.size; simp at this; omega, fun b hb => (hB1.block b (by first | omega | (simp <;> omega))).trans (H0.out.1.block b hb)⟩
  have HR11 := hide' ((hB1.block w.heap.size (by first | omega | (simp <;> omega))).trans H0.out.2.1)
  have HR21 := hide' ((hB1.block (w.heap.size + 1) (by first | omega | (simp <;> omega))).trans H0.out.2.2)
  have hz1 : w.heap.size + 1 + 1 < w1.heap.size := hS1.lt
  have H2 := hide' (l2map_hs _ 64 _ _ _ _ _ w1 hS1 (by omega) (by omega))
  clear HN H0 hB1 hS1
  go_wp2_with fail
  refine H2.out.mono ?_
  rintro e w2 ⟨xk, xn, x2, y2, z2, x3, y3, z3, x4, y4, z4, rk2, rfl, hG2, hS2, hT2⟩
  have H3 := hide' (l2bent_hs _ 64 3 rk2 _ a cap cs xk xn x2 y2 z2 x3 y3 z3 x4 y4 z4 w2 hS2 hG2 (by omega) (by omega))
  have hz2 : w1.heap.size ≤ w2.heap.size := hT2.2.1.size
  have HB2 := hide' (HB1.out.grown hT2.2.1 HB1.out.size (by intro j hj; simp at hj; omega))
  have HR12 := hide' ((hT2.2.1.block w.heap.size (by omega) (by simp <;> omega)).trans HR11.out)
  have HR22 := hide' ((hT2.2.1.block (w.heap.size + 1) (by omega) (by simp <;> omega)).trans HR21.out)
  clear hG2 hS2 hT2 H2 HB1 HR11 HR21
  go_wp2_with fail
  refine H3.out.mono ?_
  rintro e w3 ⟨ak, an, a2, l2, p2, a3, l3, p3, a4, l4, p4, rk3, rfl, hG3, hS3, hB3, hR3, hSh3⟩
  have hH4 := hS3.1.alloc_v 11 _ _ _ _ _ hG3
  have hb4 : Below w3.heap.size w3 (w3.alloc (.cells #[.int .i64 ak, .int .i64 an, .slice a2 l2 p2, .slice a3 l3 p3, .slice a4 l4 p4] 26)) := (Below.refl _ _).alloc (Nat.le_refl _) _
  have hS4 := hS3.below hH4 hb4
  have HG4 := hide' (hG3.shp (Shp.alloc w3 (.cells #[.int .i64 ak, .int .i64 an, .slice a2 l2 p2, .slice a3 l3 p3, .slice a4 l4 p4] 26)) (rkUp_old rk3 w3.heap.size 11) (Nat.le_refl _))
  have HA4 := hide' (heap_alloc_new w3 (.cells #[.int .i64 ak, .int .i64 an, .slice a2 l2 p2, .slice a3 l3 p3, .slice a4 l4 p4] 26))
  generalize rkUp rk3 w3.heap.size 11 = rk4 at *
  have H4 := hide' (l2drawName_hs _ 65 rk4 _ a cap cs _ hS4 (by omega))
  have hz3 : w2.heap.size ≤ w3.heap.size := hB3.size
  have HB4 := hide' ((HB2.out.trans (hB3.mono (by omega))).alloc (by omega) (.cells #[.int .i64 ak, .int .i64 an, .slice a2 l2 p2, .slice a3 l3 p3, .slice a4 l4 p4] 26))
  have HR14 := hide' ((Below.heap_alloc w3 (.cells #[.int .i64 ak, .int .i64 an, .slice a2 l2 p2, .slice a3 l3 p3, .slice a4 l4 p4] 26) w.heap.size (by omega)).trans ((hB3.block w.heap.size (by omega)).trans HR12.out))
  have HR24 := hide' ((Below.heap_alloc w3 (.cells #[.int .i64 ak, .int .i64 an, .slice a2 l2 p2, .slice a3 l3 p3, .slice a4 l4 p4] 26) (w.heap.size + 1) (by omega)).trans ((hB3.block (w.heap.size + 1) (by omega)).trans HR22.out))
  clear hG3 hS3 hB3 hR3 hSh3 H3 HB2 HR12 HR22 hH4 hb4 hS4
  go_wp2_with fail
  refine H4.out.mono ?_
  rintro e w5 ⟨na, nn, nc, rfl, hN5, hS5, hT5⟩
  have H5 := hide' (l1Once_hs hS5 12 (by omega))
  have hz5 : w3.heap.size < w5.heap.size := by have := hT5.2.1.size; simp at this; omega
  have HG5 := hide' (HG4.out.shp hT5.2.2 hT5.1 (Nat.le_refl _))
  have HB5 := hide' (HB4.out.grown hT5.2.1 HB4.out.size (by intro j hj; simp at hj; omega))
  have HR15 := hide' ((hT5.2.1.block w.heap.size (by simp <;> omega) (by simp <;> omega)).trans HR14.out)
  have HR25 := hide' ((hT5.2.1.block (w.heap.size + 1) (by simp <;> omega) (by simp <;> omega)).trans HR24.out)
  have HA5 := hide' ((hT5.2.1.block w3.heap.size (by simp) (by simp <;> omega)).trans HA4.out)
  have HN5 := hide' hN5
  clear hN5 hS5 hT5 H4 HG4 HB4 HR14 HR24 HA4
  go_wp2_with fail
  refine H5.out.mono ?_
  rintro e w6 ⟨bo, rfl, hS6, hc6, hs6⟩
  have hz6 : w5.heap.size ≤ w6.heap.size := hc6.1.size
  have HG6 := hide' (HG5.out.shp hs6 (Rks.refl _ _) (Nat.le_refl _))
  have HB6 : Hid (Below w.heap.size w w6) := hide' (HB5.out.grown hc6.1 HB5.out.size (by intro j hj; simp at hj; omega))
  have HR16 := hide' ((hc6.1.block w.heap.size (by omega) (by simp <;> omega)).trans HR15.out)
  have HR26 := hide' ((hc6.1.block (w.heap.size + 1) (by omega) (by simp <;> omega)).trans HR25.out)
  have HA6 := hide' ((hc6.1.block w3.heap.size (by omega) (by simp <;> omega)).trans HA5.out)
  have HN6 := hide' (HN5.out.shp (.inl rfl) hs6 (fun _ _ h => h))
  have HS6 := hide' hS6
  have hgne : w.heap.size + 1 + 1 < w3.heap.size := by omega
  have hne12 : w.heap.size ≠ w.heap.size + 1 := by omega
  clear hS6 hc6 hs6 H5 HG5 HB5 HR15 HR25 HA5 HN5
  cases bo
  · skip
    obtain ⟨c0, c1, c2, c3, c4, _⟩ := row5 HA6.out
    go_wp2_with fail
    go_region_law (first | (go_simp; go_at_call 23; refine (l2any_hs (w.heap.size + 1 + 1) 65 rk4 (w.heap.size + 1 + 1) a cap cs _ (by exact HS6.out.heap rfl) (by omega) (by omega)).mono ?_; rintro e w7 ⟨bk, bn, b2, m2, q2, b3, m3, q3, b4, m4, q4, rk7, rfl, hG7, hS7, hB7, hR7, hSh7⟩; obtain ⟨xk, xn, x2, y2, z2, x3, y3, z3, x4, y4, z4, hX, hGX⟩ := (Bx5.shp (V := w3.heap.size) ⟨_, HA6.out, rfl⟩ ((Shp.heap (w := w6) (w' := (w6).drew) rfl).trans hSh7)).form hS7.1 (by omega); have HPre := hide' (hS7.rd (((HG6.out.up.shp ((Shp.heap (w := w6) (w' := (w6).drew) rfl).trans hSh7) hR7 (Nat.le_refl _)).more (Nat.le_succ 65))) (Nat.le_refl 66)); have HPost := hide' (hS7.rd hGX (Nat.le_refl _)); have HPb := hide' (hS7.rd hG7 (Nat.le_refl _)); have HKy := hide' (hS7.ky (HN6.out.shp (.inl rfl) ((Shp.heap (w := w6) (w' := (w6).drew) rfl).trans hSh7) (fun _ _ h => h)) (by omega)); have HBl : Hid (Below w.heap.size w w7) := hide' (HB6.out.trans ((below_heap2 (w := w6) hB7 rfl rfl rfl rfl).mono (by omega))); have HR1 := hide' ((hB7.block w.heap.size (by omega)).trans HR16.out); have HR2 := hide' ((hB7.block (w.heap.size + 1) (by omega)).trans HR26.out); obtain ⟨d0, d1, d2, d3, d4, _⟩ := row5 hX; obtain ⟨r0, r1, r2, r3, r4, rf⟩ := row5 HR1.out; have f0 := rf 0; have f1 := rf 1; have f2 := rf 2; have f3 := rf 3; have f4 := rf 4; obtain ⟨t0, t1, t2, t3, t4, tf⟩ := row5 HR2.out; have h0 := tf 0; have h1 := tf 1; have h2 := tf 2; have h3 := tf 3; have h4 := tf 4; clear rf tf; clear hX hGX hG7 hS7 hB7 hR7 hSh7) | fail)
    all_goals go_wp2_with fail
    all_goals first | (obtain ⟨hF1, hF2⟩ := two_fin (.int .i64 ak) (.int .i64 an) (.slice a2 l2 p2) (.slice a3 l3 p3) (.slice a4 l4 p4) (.int .i64 bk) (.int .i64 bn) (.slice b2 m2 q2) (.slice b3 m3 q3) (.slice b4 m4 q4) HR1.out HR2.out hne12; obtain ⟨o0, o1, o2, o3, o4, _⟩ := row5 hF1; obtain ⟨s0, s1, s2, s3, s4, _⟩ := row5 hF2; clear hF1 hF2; simp only [set5, Nat.zero_add] at o0 o1 o2 o3 o4 s0 s1 s2 s3 s4; refine bodyPost_ret (v := .tuple #[.agg #[.int .i64 ak, .int .i64 an, .slice a2 l2 p2, .slice a3 l3 p3, .slice a4 l4 p4], .slice na nn nc, .agg #[.int .i64 bk, .int .i64 bn, .slice b2 m2 q2, .slice b3 m3 q3, .slice b4 m4 q4]]) (by simp [results, Try.results12, go_sem, o0, o1, o2, o3, o4, s0, s1, s2, s3, s4]; done) rfl ?_; clear o0 o1 o2 o3 o4 s0 s1 s2 s3 s4; have hE := sett_end HPre.out HKy.out HPb.out HBl.out; simp only [set5, Nat.zero_add] at hE; with_reducible exact hE) | (obtain ⟨hF1, hF2⟩ := two_fin2 (.int .i64 ak) (.int .i64 an) (.slice a2 l2 p2) (.slice a3 l3 p3) (.slice a4 l4 p4) (.int .i64 bk) (.int .i64 bn) (.slice b2 m2 q2) (.slice b3 m3 q3) (.slice b4 m4 q4) HR1.out HR2.out hne12; obtain ⟨o0, o1, o2, o3, o4, _⟩ := row5 hF1; obtain ⟨s0, s1, s2, s3, s4, _⟩ := row5 hF2; clear hF1 hF2; simp only [set5, Nat.zero_add] at o0 o1 o2 o3 o4 s0 s1 s2 s3 s4; refine bodyPost_ret (v := .tuple #[.agg #[.int .i64 ak, .int .i64 an, .slice a2 l2 p2, .slice a3 l3 p3, .slice a4 l4 p4], .slice na nn nc, .agg #[.int .i64 bk, .int .i64 bn, .slice b2 m2 q2, .slice b3 m3 q3, .slice b4 m4 q4]]) (by simp [results, Try.results12, go_sem, o0, o1, o2, o3, o4, s0, s1, s2, s3, s4]; done) rfl ?_; clear o0 o1 o2 o3 o4 s0 s1 s2 s3 s4; have hE := sett_end2 HPre.out HKy.out HPb.out HBl.out; simp only [set5, Nat.zero_add] at hE; with_reducible exact hE) | (obtain ⟨hF1, hF2⟩ := two_fin (.int .i64 xk) (.int .i64 xn) (.slice x2 y2 z2) (.slice x3 y3 z3) (.slice x4 y4 z4) (.int .i64 bk) (.int .i64 bn) (.slice b2 m2 q2) (.slice b3 m3 q3) (.slice b4 m4 q4) HR1.out HR2.out hne12; obtain ⟨o0, o1, o2, o3, o4, _⟩ := row5 hF1; obtain ⟨s0, s1, s2, s3, s4, _⟩ := row5 hF2; clear hF1 hF2; simp only [set5, Nat.zero_add] at o0 o1 o2 o3 o4 s0 s1 s2 s3 s4; refine bodyPost_ret (v := .tuple #[.agg #[.int .i64 xk, .int .i64 xn, .slice x2 y2 z2, .slice x3 y3 z3, .slice x4 y4 z4], .slice na nn nc, .agg #[.int .i64 bk, .int .i64 bn, .slice b2 m2 q2, .slice b3 m3 q3, .slice b4 m4 q4]]) (by simp [results, Try.results12, go_sem, o0, o1, o2, o3, o4, s0, s1, s2, s3, s4]; done) rfl ?_; clear o0 o1 o2 o3 o4 s0 s1 s2 s3 s4; have hE := sett_end HPost.out HKy.out HPb.out HBl.out; simp only [set5, Nat.zero_add] at hE; with_reducible exact hE) | (obtain ⟨hF1, hF2⟩ := two_fin2 (.int .i64 xk) (.int .i64 xn) (.slice x2 y2 z2) (.slice x3 y3 z3) (.slice x4 y4 z4) (.int .i64 bk) (.int .i64 bn) (.slice b2 m2 q2) (.slice b3 m3 q3) (.slice b4 m4 q4) HR1.out HR2.out hne12; obtain ⟨o0, o1, o2, o3, o4, _⟩ := row5 hF1; obtain ⟨s0, s1, s2, s3, s4, _⟩ := row5 hF2; clear hF1 hF2; simp only [set5, Nat.zero_add] at o0 o1 o2 o3 o4 s0 s1 s2 s3 s4; refine bodyPost_ret (v := .tuple #[.agg #[.int .i64 xk, .int .i64 xn, .slice x2 y2 z2, .slice x3 y3 z3, .slice x4 y4 z4], .slice na nn nc, .agg #[.int .i64 bk, .int .i64 bn, .slice b2 m2 q2, .slice b3 m3 q3, .slice b4 m4 q4]]) (by simp [results, Try.results12, go_sem, o0, o1, o2, o3, o4, s0, s1, s2, s3, s4]; done) rfl ?_; clear o0 o1 o2 o3 o4 s0 s1 s2 s3 s4; have hE := sett_end2 HPost.out HKy.out HPb.out HBl.out; simp only [set5, Nat.zero_add] at hE; with_reducible exact hE)
  · have hconv := conv_same_hw #[.int .u8 81] 1 rfl w6
    have hB0 := HS6.out.base
    have hw := HS6.out.1.alloc_b #[.int .u8 81] (1, 1 + 1) (.inr (Nat.le_refl 1)) (by intro j c hj; have h0 : j = 0 := (by have := (Array.getElem?_eq_some_iff.1 hj).1; simpa using this); subst h0; simp at hj; exact ⟨81, by unfold Byt; omega, hj.symm⟩)
    have hb7 : Below w6.heap.size w6 (w6.alloc (.cells #[.int .u8 81] 5 (1, 1 + 1))) := (Below.refl _ _).alloc (Nat.le_refl _) _
    have hk7 : Sli (w.heap.size + 1 + 1) 65 5 1 (fun _ => True) (w6.alloc (.cells #[.int .u8 81] 5 (1, 1 + 1))) (.slice (some ⟨w6.heap.size, 0, none⟩) 1 1) := ⟨_, 1, 1, rfl, by omega, Nat.le_refl _, by decide, .inr ⟨w6.heap.size, _, (1, 1 + 1), rfl, by omega, trivial, heap_alloc_new w6 _, rfl⟩⟩
    have hs7 := hide' (HS6.out.below hw hb7)
    have hg7 := hide' (HG6.out.shp (Shp.alloc w6 (.cells #[.int .u8 81] 5 (1, 1 + 1))) (Rks.refl _ _) (Nat.le_refl _))
    have hbb := hide' (HB6.out.alloc HB6.out.size (.cells #[.int .u8 81] 5 (1, 1 + 1)))
    have ha7 := hide' ((hb7.block w3.heap.size (by omega)).trans HA6.out)
    have h17 := hide' ((hb7.block w.heap.size (by omega)).trans HR16.out)
    have h27 := hide' ((hb7.block (w.heap.size + 1) (by omega)).trans HR26.out)
    clear HS6 HG6 HB6 HA6 HR16 HR26 HN6 hw hb7
    have HN6 := hide' hk7
    clear hk7
    skip
    have HS6 := hide' hs7.out
    have HG6 := hide' hg7.out
    have HB6 := hide' hbb.out
    have HA6 := hide' ha7.out
    have HR16 := hide' h17.out
    have HR26 := hide' h27.out
    clear hs7 hg7 hbb ha7 h17 h27
    obtain ⟨c0, c1, c2, c3, c4, _⟩ := row5 HA6.out
    go_wp2_with fail
    go_region_law (first | (go_simp; go_at_call 23; refine (l2any_hs (w.heap.size + 1 + 1) 65 rk4 (w.heap.size + 1 + 1) a cap cs _ (by exact HS6.out.heap rfl) (by omega) (by omega)).mono ?_; rintro e w7 ⟨bk, bn, b2, m2, q2, b3, m3, q3, b4, m4, q4, rk7, rfl, hG7, hS7, hB7, hR7, hSh7⟩; obtain ⟨xk, xn, x2, y2, z2, x3, y3, z3, x4, y4, z4, hX, hGX⟩ := (Bx5.shp (V := w3.heap.size) ⟨_, HA6.out, rfl⟩ ((Shp.heap (w := w6.alloc (.cells #[.int .u8 81] 5 (1, 1 + 1))) (w' := (w6.alloc (.cells #[.int .u8 81] 5 (1, 1 + 1))).drew) rfl).trans hSh7)).form hS7.1 (by omega); have HPre := hide' (hS7.rd (((HG6.out.up.shp ((Shp.heap (w := w6.alloc (.cells #[.int .u8 81] 5 (1, 1 + 1))) (w' := (w6.alloc (.cells #[.int .u8 81] 5 (1, 1 + 1))).drew) rfl).trans hSh7) hR7 (Nat.le_refl _)).more (Nat.le_succ 65))) (Nat.le_refl 66)); have HPost := hide' (hS7.rd hGX (Nat.le_refl _)); have HPb := hide' (hS7.rd hG7 (Nat.le_refl _)); have HKy := hide' (hS7.ky (HN6.out.shp (.inl rfl) ((Shp.heap (w := w6.alloc (.cells #[.int .u8 81] 5 (1, 1 + 1))) (w' := (w6.alloc (.cells #[.int .u8 81] 5 (1, 1 + 1))).drew) rfl).trans hSh7) (fun _ _ h => h)) (by omega)); have HBl : Hid (Below w.heap.size w w7) := hide' (HB6.out.trans ((below_heap2 (w := w6.alloc (.cells #[.int .u8 81] 5 (1, 1 + 1))) hB7 rfl rfl rfl rfl).mono (by omega))); have HR1 := hide' ((hB7.block w.heap.size (by omega)).trans HR16.out); have HR2 := hide' ((hB7.block (w.heap.size + 1) (by omega)).trans HR26.out); obtain ⟨d0, d1, d2, d3, d4, _⟩ := row5 hX; obtain ⟨r0, r1, r2, r3, r4, rf⟩ := row5 HR1.out; have f0 := rf 0; have f1 := rf 1; have f2 := rf 2; have f3 := rf 3; have f4 := rf 4; obtain ⟨t0, t1, t2, t3, t4, tf⟩ := row5 HR2.out; have h0 := tf 0; have h1 := tf 1; have h2 := tf 2; have h3 := tf 3; have h4 := tf 4; clear rf tf; clear hX hGX hG7 hS7 hB7 hR7 hSh7) | fail)
    all_goals go_wp2_with fail
    all_goals first | (obtain ⟨hF1, hF2⟩ := two_fin (.int .i64 ak) (.int .i64 an) (.slice a2 l2 p2) (.slice a3 l3 p3) (.slice a4 l4 p4) (.int .i64 bk) (.int .i64 bn) (.slice b2 m2 q2) (.slice b3 m3 q3) (.slice b4 m4 q4) HR1.out HR2.out hne12; obtain ⟨o0, o1, o2, o3, o4, _⟩ := row5 hF1; obtain ⟨s0, s1, s2, s3, s4, _⟩ := row5 hF2; clear hF1 hF2; simp only [set5, Nat.zero_add] at o0 o1 o2 o3 o4 s0 s1 s2 s3 s4; refine bodyPost_ret (v := .tuple #[.agg #[.int .i64 ak, .int .i64 an, .slice a2 l2 p2, .slice a3 l3 p3, .slice a4 l4 p4], .slice (some ⟨w6.heap.size, 0, none⟩) 1 1, .agg #[.int .i64 bk, .int .i64 bn, .slice b2 m2 q2, .slice b3 m3 q3, .slice b4 m4 q4]]) (by simp [results, Try.results12, go_sem, o0, o1, o2, o3, o4, s0, s1, s2, s3, s4]; done) rfl ?_; clear o0 o1 o2 o3 o4 s0 s1 s2 s3 s4; have hE := sett_end HPre.out HKy.out HPb.out HBl.out; simp only [set5, Nat.zero_add] at hE; with_reducible exact hE) | (obtain ⟨hF1, hF2⟩ := two_fin2 (.int .i64 ak) (.int .i64 an) (.slice a2 l2 p2) (.slice a3 l3 p3) (.slice a4 l4 p4) (.int .i64 bk) (.int .i64 bn) (.slice b2 m2 q2) (.slice b3 m3 q3) (.slice b4 m4 q4) HR1.out HR2.out hne12; obtain ⟨o0, o1, o2, o3, o4, _⟩ := row5 hF1; obtain ⟨s0, s1, s2, s3, s4, _⟩ := row5 hF2; clear hF1 hF2; simp only [set5, Nat.zero_add] at o0 o1 o2 o3 o4 s0 s1 s2 s3 s4; refine bodyPost_ret (v := .tuple #[.agg #[.int .i64 ak, .int .i64 an, .slice a2 l2 p2, .slice a3 l3 p3, .slice a4 l4 p4], .slice (some ⟨w6.heap.size, 0, none⟩) 1 1, .agg #[.int .i64 bk, .int .i64 bn, .slice b2 m2 q2, .slice b3 m3 q3, .slice b4 m4 q4]]) (by simp [results, Try.results12, go_sem, o0, o1, o2, o3, o4, s0, s1, s2, s3, s4]; done) rfl ?_; clear o0 o1 o2 o3 o4 s0 s1 s2 s3 s4; have hE := sett_end2 HPre.out HKy.out HPb.out HBl.out; simp only [set5, Nat.zero_add] at hE; with_reducible exact hE) | (obtain ⟨hF1, hF2⟩ := two_fin (.int .i64 xk) (.int .i64 xn) (.slice x2 y2 z2) (.slice x3 y3 z3) (.slice x4 y4 z4) (.int .i64 bk) (.int .i64 bn) (.slice b2 m2 q2) (.slice b3 m3 q3) (.slice b4 m4 q4) HR1.out HR2.out hne12; obtain ⟨o0, o1, o2, o3, o4, _⟩ := row5 hF1; obtain ⟨s0, s1, s2, s3, s4, _⟩ := row5 hF2; clear hF1 hF2; simp only [set5, Nat.zero_add] at o0 o1 o2 o3 o4 s0 s1 s2 s3 s4; refine bodyPost_ret (v := .tuple #[.agg #[.int .i64 xk, .int .i64 xn, .slice x2 y2 z2, .slice x3 y3 z3, .slice x4 y4 z4], .slice (some ⟨w6.heap.size, 0, none⟩) 1 1, .agg #[.int .i64 bk, .int .i64 bn, .slice b2 m2 q2, .slice b3 m3 q3, .slice b4 m4 q4]]) (by simp [results, Try.results12, go_sem, o0, o1, o2, o3, o4, s0, s1, s2, s3, s4]; done) rfl ?_; clear o0 o1 o2 o3 o4 s0 s1 s2 s3 s4; have hE := sett_end HPost.out HKy.out HPb.out HBl.out; simp only [set5, Nat.zero_add] at hE; with_reducible exact hE) | (obtain ⟨hF1, hF2⟩ := two_fin2 (.int .i64 xk) (.int .i64 xn) (.slice x2 y2 z2) (.slice x3 y3 z3) (.slice x4 y4 z4) (.int .i64 bk) (.int .i64 bn) (.slice b2 m2 q2) (.slice b3 m3 q3) (.slice b4 m4 q4) HR1.out HR2.out hne12; obtain ⟨o0, o1, o2, o3, o4, _⟩ := row5 hF1; obtain ⟨s0, s1, s2, s3, s4, _⟩ := row5 hF2; clear hF1 hF2; simp only [set5, Nat.zero_add] at o0 o1 o2 o3 o4 s0 s1 s2 s3 s4; refine bodyPost_ret (v := .tuple #[.agg #[.int .i64 xk, .int .i64 xn, .slice x2 y2 z2, .slice x3 y3 z3, .slice x4 y4 z4], .slice (some ⟨w6.heap.size, 0, none⟩) 1 1, .agg #[.int .i64 bk, .int .i64 bn, .slice b2 m2 q2, .slice b3 m3 q3, .slice b4 m4 q4]]) (by simp [results, Try.results12, go_sem, o0, o1, o2, o3, o4, s0, s1, s2, s3, s4]; done) rfl ?_; clear o0 o1 o2 o3 o4 s0 s1 s2 s3 s4; have hE := sett_end2 HPost.out HKy.out HPb.out HBl.out; simp only [set5, Nat.zero_add] at hE; with_reducible exact hE)
end Go.Proofs.Ytenfnbnhdmkhkaa
