/-
  Texts that a law leans on, one behind the other; no statement is proved here.
-/
import Derived.Test.YthnkedbmfhokiaaGreatDoorPk32
import Derived.Test.YthnkedbmfhokiaaGreatDoorPk13
import Derived.Deep.RegionLaw
import Derived.Deep.CutRange
import Derived.Test.YthnkedbmfhokiaaGreatDoorPk30
import Derived.Test.YthnkedbmfhokiaaGreatDoorPk3
import Derived.Test.YthnkedbmfhokiaaGreatDoorPk15
import Derived.Test.YthnkedbmfhokiaaGreatDoorPk18
import Derived.Test.YthnkedbmfhokiaaGreatDoorPk14
import Derived.Test.YthnkedbmfhokiaaGreatDoorPk27
import Derived.Deep.RegionHeld3
import Derived.Test.YthnkedbmfhokiaaGreatDoorPk6
import Derived.Test.YthnkedbmfhokiaaGreatDoorPk19
/-
  Numbers and texts, as both readers take them from where they are. No statement is proved here.
-/
namespace Go.Proofs.YthnkedbmfhokiaaGreatDoor
open Go.RowKit
set_option linter.unusedVariables false
set_option linter.unusedSimpArgs false

/-- What a number's reading leaves. -/
def NumEnd (T : TypeId) (xs : List Int) (g : Nat) (a : Option Addr) (cap : Nat) (p q : Int) (w : World) (e : Ending) (w' : World) : Prop := e = .returned (.int .i64 (getNum xs p).1) ∧ RdC T xs w' g a cap (getNum xs p).2 q ∧ w.grownBy w' (some g)
/-- .. and a text's. -/
def TxtEnd (T : TypeId) (xs : List Int) (g : Nat) (a : Option Addr) (cap : Nat) (p q : Int) (w : World) (e : Ending) (w' : World) : Prop := ∃ v, e = .returned v ∧ Bts w' w.heap.size v (getText xs p).1 ∧ RdC T xs w' g a cap (getText xs p).2 q ∧ w.grownBy w' (some g)

end Go.Proofs.YthnkedbmfhokiaaGreatDoor
/-
  The program's reader: numbers, texts, signed numbers. No statement is proved here.
-/
namespace Go.Proofs.YthnkedbmfhokiaaGreatDoor
open Go.RowKit
set_option linter.unusedVariables false
set_option linter.unusedSimpArgs false

set_option maxHeartbeats 3200000 in
set_option maxRecDepth 100000 in
theorem reader_num_any (xs : List Int) (g : Nat) (a : Option Addr) (cap : Nat) (p q : Int) (w : World) (h : RdC 49 xs w g a cap p q) :
    Calls Tryz.prog 44 #[.pointer (some ⟨g, 0, none⟩)] w (NumEnd 49 xs g a cap p q w) := by
  obtain ⟨r0, r1, r2, rf⟩ := row3r h.1
  have f1 := rf 1
  clear rf
  have hg := get_at xs p h.2.1.1
  have HC : Hid (∀ wy : World, wy.heap = w.heap → wy.os = w.os → wy.tape = w.tape → wy.output = w.output → Calls Tryz.prog 66 #[.slice a xs.length cap, .int .i64 p] wy fun e w' => e = .returned (.tuple #[.int .i64 (getNum xs p).1, .int .i64 (getNum xs p).2]) ∧ Below w.heap.size w w') := fun wy e0 e1 e2 e3 => (impl_GetNum_any a cap xs p wy (seg_kept h.2.1 fun x _ _ => by rw [e0]) (by have := h.2.2.2.2.2.1; omega) (by have := h.2.2.2.2.2; omega)).mono fun e w' hh => ⟨hh.1, hh.2.os.trans e1, hh.2.tape.trans e2, hh.2.output.trans e3, by have := hh.2.size; rw [e0] at this; exact this, fun b hb => by rw [hh.2.block b (by rw [e0]; exact hb), e0]⟩
  have HF : Hid (∀ w5, Below w.heap.size w w5 → RdC 49 xs (w5.setCell ⟨g, 1, none⟩ (.int .i64 (getNum xs p).2)) g a cap (getNum xs p).2 q ∧ w.grownBy (w5.setCell ⟨g, 1, none⟩ (.int .i64 (getNum xs p).2)) (some g) ∧ w5.frozen? ⟨g, 1, none⟩ = false ∧ ∃ v, w5.cell? ⟨g, 1, none⟩ = some v) := fun w5 hb => by
    have hc := h.below hb
    obtain ⟨_, s1, _, sf⟩ := row3r hc.1
    exact ⟨hc.at_ (by omega) (by omega), grownBy_trans ⟨hb.os, hb.tape, hb.output, hb.size, fun b hb' _ => hb.block b hb'⟩ (grown1 w5 g 1 _), sf 1, _, s1⟩
  clear h hg
  unfold NumEnd
  generalize getNum xs p = r at *
  obtain ⟨n, m⟩ := r
  simp only at HC HF
  generalize xs.length = nl at *
  go_enter Tryz.func44, Tryz.ntmps44
  go_wp2_with fail
  go_region_law (go_simp; go_at_call 66; refine (HC.out _ (by rfl) (by rfl) (by rfl) (by rfl)).mono ?_; rintro e w5 ⟨rfl, hb5⟩; obtain ⟨hd5, hg5, hf5, v5, hv5⟩ := HF.out w5 hb5; replace hd5 := hide' hd5; replace hg5 := hide' hg5; clear hb5)
  all_goals go_wp2
  all_goals go_ret
  all_goals exact ⟨rfl, hd5.out, hg5.out⟩
set_option maxHeartbeats 3200000 in
set_option maxRecDepth 100000 in
theorem reader_text_any (xs : List Int) (g : Nat) (a : Option Addr) (cap : Nat) (p q : Int) (w : World) (h : RdC 49 xs w g a cap p q) :
    Calls Tryz.prog 46 #[.pointer (some ⟨g, 0, none⟩)] w (TxtEnd 49 xs g a cap p q w) := by
  obtain ⟨r0, r1, r2, rf⟩ := row3r h.1
  have f1 := rf 1
  clear rf
  have hg := text_at xs p h.2.1.1
  have HC : Hid (∀ wy : World, wy.heap = w.heap → wy.os = w.os → wy.tape = w.tape → wy.output = w.output → Calls Tryz.prog 67 #[.slice a xs.length cap, .int .i64 p] wy fun e w' => ∃ v, e = .returned (.tuple #[v, .int .i64 (getText xs p).2]) ∧ Bts w' w.heap.size v (getText xs p).1 ∧ Below w.heap.size w w') := fun wy e0 e1 e2 e3 => (impl_GetText_any a cap xs p wy (seg_kept h.2.1 fun x _ _ => by rw [e0]) h.2.2.2.1 h.2.2.2.2.1 (by have := h.2.2.2.2.2.1; omega) (by have := h.2.2.2.2.2; omega)).mono fun e w' hh => by
    obtain ⟨v, h1, h2, h3⟩ := hh
    rw [e0] at h2
    exact ⟨v, h1, h2, h3.os.trans e1, h3.tape.trans e2, h3.output.trans e3, by have := h3.size; rw [e0] at this; exact this, fun b hb => by rw [h3.block b (by rw [e0]; exact hb), e0]⟩
  have HF : Hid (∀ w5, Below w.heap.size w w5 → RdC 49 xs (w5.setCell ⟨g, 1, none⟩ (.int .i64 (getText xs p).2)) g a cap (getText xs p).2 q ∧ w.grownBy (w5.setCell ⟨g, 1, none⟩ (.int .i64 (getText xs p).2)) (some g) ∧ w5.frozen? ⟨g, 1, none⟩ = false ∧ ∃ v, w5.cell? ⟨g, 1, none⟩ = some v) := fun w5 hb => by
    have hc := h.below hb
    obtain ⟨_, s1, _, sf⟩ := row3r hc.1
    exact ⟨hc.at_ (by omega) (by omega), grownBy_trans ⟨hb.os, hb.tape, hb.output, hb.size, fun b hb' _ => hb.block b hb'⟩ (grown1 w5 g 1 _), sf 1, _, s1⟩
  have hgl := h.lt
  have HB : Hid (∀ (w5 : World) (v : Value) (m : Int), Bts w5 w.heap.size v (getText xs p).1 → Bts (w5.setCell ⟨g, 1, none⟩ (.int .i64 m)) w.heap.size v (getText xs p).1) := fun w5 v m hv => hv.kept (grown1 w5 g 1 _) (by
    cases hvo : v.ownBlock with
    | none => exact .inl rfl
    | some k => right; have := (hv.2.lt k hvo).1; simp; omega)
  clear h hg hgl
  unfold TxtEnd
  generalize getText xs p = r at *
  obtain ⟨ys, m⟩ := r
  simp only at HC HF
  generalize xs.length = nl at *
  go_enter Tryz.func46, Tryz.ntmps46
  go_wp2_with fail
  go_region_law (go_simp; go_at_call 67; refine (HC.out _ (by rfl) (by rfl) (by rfl) (by rfl)).mono ?_; rintro e w5 ⟨v, rfl, hv, hb5⟩; obtain ⟨av, cv, hsv, _⟩ := hv.shape; generalize hyl : ys.length = yl at hsv; subst hsv; subst hyl; replace hv := hide' hv; obtain ⟨hd5, hg5, hf5, v5, hv5⟩ := HF.out w5 hb5; replace hd5 := hide' hd5; replace hg5 := hide' hg5; clear hb5)
  all_goals go_wp2
  all_goals go_ret
  all_goals exact ⟨_, rfl, HB.out _ _ _ hv.out, hd5.out, hg5.out⟩

/-- What a signed number's reading leaves. -/
def SgnEnd (xs : List Int) (g : Nat) (a : Option Addr) (cap : Nat) (p q : Int) (w : World) (e : Ending) (w' : World) : Prop :=
  e = .returned (.int .i64 (if (getNum xs p).1 = 1 then -((getNum xs (getNum xs p).2).1 * 1000000 + (getNum xs (getNum xs (getNum xs p).2).2).1) else (getNum xs (getNum xs p).2).1 * 1000000 + (getNum xs (getNum xs (getNum xs p).2).2).1)) ∧
    RdC 49 xs w' g a cap (getNum xs (getNum xs (getNum xs p).2).2).2 q ∧ w.grownBy w' (some g)

set_option maxHeartbeats 3200000 in
set_option maxRecDepth 100000 in
theorem reader_signed_any (xs : List Int) (g : Nat) (a : Option Addr) (cap : Nat) (p q : Int) (w : World) (h : RdC 49 xs w g a cap p q) :
    Calls Tryz.prog 45 #[.pointer (some ⟨g, 0, none⟩)] w (SgnEnd xs g a cap p q w) := by
  have hby := h.2.1.1
  have HL4 := hide' (reader_num_any xs g a cap p q w h)
  unfold SgnEnd
  have hr2 := get_at xs p hby
  clear h
  generalize hng : (getNum xs p).1 = ng at *
  generalize hp2 : (getNum xs p).2 = p2 at *
  have hN1 := hide' (And.intro hng hp2)
  clear hng hp2
  have hr3 := get_at xs p2 hby
  generalize hnA : (getNum xs p2).1 = nA at *
  generalize hp3 : (getNum xs p2).2 = p3 at *
  have hN2 := hide' (And.intro hnA hp3)
  clear hnA hp3
  have hr4 := get_at xs p3 hby
  generalize hnB : (getNum xs p3).1 = nB at *
  generalize hp4 : (getNum xs p3).2 = p4 at *
  have hN3 := hide' (And.intro hnB hp4)
  clear hnB hp4
  have HMu : Hid (IntKind.i64.wrap (nA * 1000000) = nA * 1000000) := hide' (by simp only [IntKind.wrap, IntKind.bits, IntKind.signed]; simp; omega)
  have HAd : Hid (IntKind.i64.wrap (nA * 1000000 + nB) = nA * 1000000 + nB) := hide' (by simp only [IntKind.wrap, IntKind.bits, IntKind.signed]; simp; omega)
  have HNe : Hid (IntKind.i64.wrap (-(nA * 1000000 + nB)) = -(nA * 1000000 + nB)) := hide' (by simp only [IntKind.wrap, IntKind.bits, IntKind.signed]; simp; omega)
  unfold NumEnd at HL4
  rw [hN1.out.1, hN1.out.2] at HL4
  go_enter Tryz.func45, Tryz.ntmps45
  go_wp2_with fail
  refine HL4.out.mono ?_
  rintro e w5 ⟨rfl, hc5, hg5⟩
  have HL5 := hide' (reader_num_any xs g a cap p2 q w5 hc5)
  unfold NumEnd at HL5
  rw [hN2.out.1, hN2.out.2] at HL5
  clear HL4
  go_wp2_with fail
  refine HL5.out.mono ?_
  rintro e w6 ⟨rfl, hc6, hg6⟩
  have HL6 := hide' (reader_num_any xs g a cap p3 q w6 hc6)
  unfold NumEnd at HL6
  rw [hN3.out.1, hN3.out.2] at HL6
  clear HL5
  go_wp2_with fail
  refine HL6.out.mono ?_
  rintro e w7 ⟨rfl, hc7, hg7⟩
  have HE := hide' (And.intro hc7 (grownBy_trans (grownBy_trans hg5 hg6) hg7))
  clear HL6 hc5 hc6 hc7 hg5 hg6 hg7
  by_cases h1 : ng = 1
  · subst h1
    go_wp2
    go_ret
    exact ⟨rfl, HE.out⟩
  · have h1' : (ng == 1) = false := by simp [h1]
    go_wp2
    go_ret
    exact ⟨rfl, HE.out⟩
end Go.Proofs.YthnkedbmfhokiaaGreatDoor
/-
  Readers of values: what stands while one is read, and at its end. No statement is proved here.
-/
namespace Go.Proofs.YthnkedbmfhokiaaGreatDoor
open Go.RowKit
set_option linter.unusedVariables false
set_option linter.unusedSimpArgs false

/-- Each value takes one off, and what went too far ends. -/
theorem rd_left (xs : List Int) : ∀ (dp : Nat) (at_ left : Int), 0 ≤ left → -1 ≤ (rdV xs dp at_ left).2.2 ∧ (rdV xs dp at_ left).2.2 ≤ left - 1 ∧ ((rdV xs dp at_ left).2.2 < 0 → (rdV xs dp at_ left).2.1 < 0)
  | 0, at_, left, h => by rw [rdV_zero]; simp only; omega
  | dp + 1, at_, left, h => by
    by_cases hl : left - 1 < 0
    · rw [rdV_many hl]; simp only; omega
    · have hK : ∀ (m : Bool) (n : Nat) (K : List (List Int)) (L : List (Vl (dp + 1))) (a l : Int), -1 ≤ l → (l < 0 → a < 0) → -1 ≤ (rdK (fun a l => rdV xs dp a l) xs m n K L a l).2.2.2 ∧ (rdK (fun a l => rdV xs dp a l) xs m n K L a l).2.2.2 ≤ l ∧ ((rdK (fun a l => rdV xs dp a l) xs m n K L a l).2.2.2 < 0 → (rdK (fun a l => rdV xs dp a l) xs m n K L a l).2.2.1 < 0) := by
        intro m n
        induction n with
        | zero => intro K L a l h1 h2; rw [rdK_zero]; exact ⟨h1, Int.le_refl _, h2⟩
        | succ n ih =>
          intro K L a l h1 h2
          by_cases ha : a < 0
          · rw [rdK_end _ _ _ _ _ _ _ _ ha]; exact ⟨h1, Int.le_refl _, h2⟩
          · rw [rdK_step _ _ _ _ _ _ _ _ ha]
            have h3 := rd_left xs dp (if m then (getText xs a).2 else a) l (by omega)
            have h4 := ih (if m then K ++ [(getText xs a).1] else K) (L ++ [(rdV xs dp (if m then (getText xs a).2 else a) l).1]) _ _ h3.1 h3.2.2
            exact ⟨h4.1, by omega, h4.2.2⟩
      by_cases k1 : (getNum xs at_).1 = 1
      · rw [rdV_bool hl k1]; simp only; omega
      · by_cases k2 : (getNum xs at_).1 = 2
        · rw [rdV_int hl k2]; simp only; omega
        · by_cases k3 : (getNum xs at_).1 = 3
          · rw [rdV_text hl k3]; simp only; omega
          · by_cases k45 : (getNum xs at_).1 = 4 ∨ (getNum xs at_).1 = 5
            · rw [rdV_kids hl k45]
              have := hK (decide ((getNum xs at_).1 = 5)) (getNum xs (getNum xs at_).2).1.toNat [] [] (getNum xs (getNum xs at_).2).2 (left - 1) (by omega) (by omega)
              simp only [kidsOf]
              exact ⟨this.1, this.2.1, this.2.2⟩
            · rw [rdV_leaf hl k1 k2 k3 (by omega) (by omega)]; simp only; omega

/-- What a text's reading leaves, the text being the call's own. -/
def TokEnd (T : TypeId) (xs : List Int) (g : Nat) (a : Option Addr) (cap : Nat) (p q : Int) (w : World) (e : Ending) (w' : World) : Prop :=
  ∃ ua un uc, e = .returned (.slice ua un uc) ∧ (∃ B, TOwn w' (.slice ua un uc) (getText xs p).1 B ∧ (∀ b ∈ B, w.heap.size ≤ b ∧ b < w'.heap.size) ∧ B.Nodup) ∧ RdC T xs w' g a cap (getText xs p).2 q ∧ w.grownBy w' (some g)
theorem TxtEnd.tok {T : TypeId} {xs : List Int} {g : Nat} {a : Option Addr} {cap : Nat} {p q : Int} {w w' : World} {e : Ending} (h : TxtEnd T xs g a cap p q w e w') : TokEnd T xs g a cap p q w e w' := by
  obtain ⟨v, rfl, hB, hc, hg⟩ := h
  obtain ⟨av, cv, rfl, _⟩ := hB.shape
  exact ⟨_, _, _, rfl, tOwn_of hB, hc, hg⟩

section
variable {T : TypeId} {xs : List Int} {w wf : World} {g : Nat} {a : Option Addr} {cap : Nat} {p q : Int} {d : Nat} {v : Vl d}

/-- The answer, laid into its box. -/
theorem rd_end {uk un : Int} {s2 : Option Addr} {n2 r2 : Nat} {s3 : Option Addr} {n3 r3 : Nat} {s4 : Option Addr} {n4 r4 : Nat} (hc : RdC T xs wf g a cap p q) (hg : w.grownBy wf (some g)) (hgl : g < w.heap.size) (hR : w.heap.size < wf.heap.size)
    (hv : ∃ Bs, VOwn wf d (.int .i64 uk, .int .i64 un, .slice s2 n2 r2, .slice s3 n3 r3, .slice s4 n4 r4) v Bs ∧ ∀ b ∈ Bs, w.heap.size < b ∧ b < wf.heap.size) :
    RdEnd T xs g a cap w d v p q (.returned (.agg #[.int .i64 uk, .int .i64 un, .slice s2 n2 r2, .slice s3 n3 r3, .slice s4 n4 r4])) (set5 wf w.heap.size 0 (.int .i64 uk) (.int .i64 un) (.slice s2 n2 r2) (.slice s3 n3 r3) (.slice s4 n4 r4)) := by
  have h5 := set5_grown wf w.heap.size 0 (.int .i64 uk) (.int .i64 un) (.slice s2 n2 r2) (.slice s3 n3 r3) (.slice s4 n4 r4)
  have hz5 := set5_size wf w.heap.size 0 (.int .i64 uk) (.int .i64 un) (.slice s2 n2 r2) (.slice s3 n3 r3) (.slice s4 n4 r4)
  obtain ⟨Bs, hv, hB⟩ := hv
  refine ⟨_, _, _, _, _, _, _, _, _, _, _, rfl, ⟨Bs, VOwn.agree d hv fun b hb => h5.block b (hB b hb).2 (by have := (hB b hb).1; simp; omega), fun b hb => by have := hB b hb; omega⟩, hc.keep fun b hb => h5.block b (by omega) (by simp; omega), ?_⟩
  exact ⟨h5.os.trans hg.os, h5.tape.trans hg.tape, h5.output.trans hg.output, by omega, fun b hb hne => (h5.block b (by omega) (by simp; omega)).trans (hg.block b hb hne)⟩

theorem grown_new {B : Nat} (h : w.grownBy wf (some g)) (hB : w.heap.size ≤ B) (j : Nat) (x : Value) : w.grownBy (wf.setCell ⟨B, j, none⟩ x) (some g) := by
  have h2 := grown1 wf B j x
  have hz := h.size
  exact ⟨h2.os.trans h.os, h2.tape.trans h.tape, h2.output.trans h.output, Nat.le_trans h.size h2.size, fun b hb hne => (h2.block b (by omega) (by simp; omega)).trans (h.block b hb hne)⟩
theorem leaf_own (wf : World) (d : Nat) (uk un : Int) : VOwn wf (d + 1) (.int .i64 uk, .int .i64 un, .slice none 0 0, .slice none 0 0, .slice none 0 0) (uk, un, [], [], []) [] :=
  (VOwn_succ _ _ _ _ _).2 ⟨rfl, rfl, [], [], [], ⟨⟨by simp, rfl, .inl ⟨rfl, rfl⟩⟩, .inl ⟨rfl, rfl⟩⟩, .inl ⟨rfl, rfl, rfl⟩, .inl ⟨rfl, rfl, rfl⟩, rfl, by simp⟩
theorem text_own {wf : World} (d : Nat) {u : Value} {t : List Int} {B : List Nat} (h : TOwn wf u t B) (hn : B.Nodup) (uk : Int) : VOwn wf (d + 1) (.int .i64 uk, .int .i64 0, u, .slice none 0 0, .slice none 0 0) (uk, 0, t, [], []) B :=
  (VOwn_succ _ _ _ _ _).2 ⟨rfl, rfl, B, [], [], h, .inl ⟨rfl, rfl, rfl⟩, .inl ⟨rfl, rfl, rfl⟩, by simp, hn⟩
end
section
variable {α : Type}
/-- How many rounds are left. -/
theorem rdK_more (f : Int → Int → α × Int × Int) (xs : List Int) (m : Bool) (N k : Nat) (K : List (List Int)) (L : List α) (p q : Int) (hk : k < N) (hp : ¬ p < 0) : rdK f xs m (N - k) K L p q =
    rdK f xs m (N - (k + 1)) (if m then K ++ [(getText xs p).1] else K) (L ++ [(f (if m then (getText xs p).2 else p) q).1]) (f (if m then (getText xs p).2 else p) q).2.1 (f (if m then (getText xs p).2 else p) q).2.2 := by
  rw [show N - k = (N - (k + 1)) + 1 by omega, rdK_step _ _ _ _ _ _ _ _ hp]
end

theorem rd_from {T : TypeId} {xs : List Int} {g : Nat} {a : Option Addr} {cap : Nat} {w wy w' : World} {d : Nat} {v : Vl d} {p q : Int} {e : Ending} (h : RdEnd T xs g a cap wy d v p q e w') (e0 : wy.heap = w.heap) (e1 : wy.os = w.os) (e2 : wy.tape = w.tape) (e3 : wy.output = w.output) : RdEnd T xs g a cap w d v p q e w' := by
  obtain ⟨uk, un, s2, n2, r2, s3, n3, r3, s4, n4, r4, he, ⟨B, ho, hb⟩, hc, hg⟩ := h
  refine ⟨uk, un, s2, n2, r2, s3, n3, r3, s4, n4, r4, he, ⟨B, ho, by rw [← e0]; exact hb⟩, hc, ⟨hg.os.trans e1, hg.tape.trans e2, hg.output.trans e3, by rw [← e0]; exact hg.size, fun b hb' hne => by rw [← e0]; exact hg.block b (by rw [e0]; exact hb') hne⟩⟩
theorem tok_from {T : TypeId} {xs : List Int} {g : Nat} {a : Option Addr} {cap : Nat} {w wy w' : World} {p q : Int} {e : Ending} (h : TokEnd T xs g a cap p q wy e w') (e0 : wy.heap = w.heap) (e1 : wy.os = w.os) (e2 : wy.tape = w.tape) (e3 : wy.output = w.output) : TokEnd T xs g a cap p q w e w' := by
  obtain ⟨ua, un, uc, he, ⟨B, ho, hb, hn⟩, hc, hg⟩ := h
  refine ⟨ua, un, uc, he, ⟨B, ho, by rw [← e0]; exact hb, hn⟩, hc, ⟨hg.os.trans e1, hg.tape.trans e2, hg.output.trans e3, by rw [← e0]; exact hg.size, fun b hb' hne => by rw [← e0]; exact hg.block b (by rw [e0]; exact hb') hne⟩⟩
end Go.Proofs.YthnkedbmfhokiaaGreatDoor
/-
  ValBytes of the program: putPart of a text.
-/
namespace Go.Proofs.YthnkedbmfhokiaaGreatDoor
open Go.RowKit Go.Shelf
set_option linter.unusedVariables false
set_option linter.unusedSimpArgs false

set_option maxHeartbeats 1000000 in
set_option maxRecDepth 100000 in
theorem putPart_textPart (sx : ByteArray) (xt : List Int) (a : Option Addr) (cap : Nat) (xs : List Int) (w : World) (hs : Seg w a xs) (ka : a = none → cap = 0) (hl : xs.length ≤ 1000000) (hx : ∀ x ∈ xt, Byt x) (hsx : strOf xt = sx) (hlt : xt.length ≤ 1000) :
    Calls Tryz.prog 18 #[.slice a xs.length cap, .iface 70 (.agg #[.string sx])] w (PPEnd w (putText (putNum xs 3) xt)) := by
  have m1 := meth_textPart (.agg #[.string sx])
  have t1 := nobool_textPart (.agg #[.string sx])
  have t2 := noint_textPart (.agg #[.string sx])
  have t3 := is_textPart (.agg #[.string sx])
  have HK := hide' (kind_textPart sx)
  have H1 : Hid (∀ wx, Below w.heap.size w wx → Calls Tryz.prog 33 #[.slice a xs.length cap, .int .i64 3] wx (PEnd wx (putNum xs 3))) := fun wx hb => impl_PutNum_end a cap xs 3 wx (hs.grow hb) ka (by omega)
  have hpl := putNum_len xs 3
  clear hs
  go_enter Tryz.func18, Tryz.ntmps18
  go_wp2_with fail
  refine (HK.out _).mono ?_
  rintro e w1 ⟨rfl, b1⟩
  have B1 := b1
  clear b1
  go_wp2_with fail
  refine (H1.out _ B1).mono ?_
  rintro e w2 ⟨a1, c1, rfl, hB1, b2, k1⟩
  have B2 := Below.on B1 b2
  obtain ⟨ck, wB, hconv, hTo, hBb, hzB⟩ := conv_back xt hx (by omega) (w2.alloc (.cells #[.string (strOf xt)] 70))
  rw [hsx] at hconv hTo hBb hzB
  have hb5 : Below w2.heap.size w2 wB := Below.on ((Below.refl _ _).alloc (Nat.le_refl _) _) hBb
  have HT2 := hide' (impl_PutText_end a1 _ c1 ck (putNum xs 3) xt wB (hB1.seg.grow hb5) hTo.seg.out.1 k1 hTo.seg.out.2 (by omega) (by omega))
  have BB := Below.on B2 hb5
  have hhs : (w2.alloc (.cells #[.string sx] 70)).heap.size = w2.heap.size + 1 := by simp
  rw [hhs] at hconv HT2
  generalize putNum xs 3 = z1 at *
  generalize z1.length = n1 at *
  generalize hnt : xt.length = nt at *
  clear b2 hB1 HK m1 hTo hBb hb5 hhs hzB
  go_wp2_with fail
  refine HT2.out.mono ?_
  rintro e w3 ⟨a3, c3, rfl, hB3, b3, k3⟩
  have B3 := Below.on BB b3
  have HB3 := hide' (hB3.mono (base' := w.heap.size) BB.size)
  generalize (putText z1 xt).length = n3 at *
  clear b3 hB3 HT2
  go_wp2
  go_ret
  exact ⟨_, rfl, HB3.out, B3⟩
end Go.Proofs.YthnkedbmfhokiaaGreatDoor
/-
  mapOf of the program.
-/
namespace Go.Proofs.YthnkedbmfhokiaaGreatDoor
open Go.RowKit
set_option linter.unusedVariables false
set_option linter.unusedSimpArgs false

end Go.Proofs.YthnkedbmfhokiaaGreatDoor
/-
  holds of the program's reader: the parts of a list or a map. No statement is proved here.
-/
namespace Go.Proofs.YthnkedbmfhokiaaGreatDoor
open Go.RowKit
set_option linter.unusedVariables false
set_option linter.unusedSimpArgs false

/-- The row's last five cells, stored. -/
theorem row_put5 {w : World} {base g n cp : Nat} {fl : List Value} {z0 z1 z2 z3 z4 : Value} (u0 u1 u2 u3 u4 : Value) (hfl : fl.length = n * 5) (h : w.ownsRow base 26 5 (.slice (some ⟨g, 0, none⟩) (n + 1) cp) (n + 1) (fl ++ [z0, z1, z2, z3, z4])) :
    (set5 w g (n * 5) u0 u1 u2 u3 u4).ownsRow base 26 5 (.slice (some ⟨g, 0, none⟩) (n + 1) cp) (n + 1) (fl ++ [u0, u1, u2, u3, u4]) := by
  have h5 := ((((((h.stored (n * 5) u0).1).stored (n * 5 + 1) u1).1.stored (n * 5 + 2) u2).1.stored (n * 5 + 3) u3).1.stored (n * 5 + 4) u4).1
  have e : ((((((fl ++ [z0, z1, z2, z3, z4]).set (n * 5) u0).set (n * 5 + 1) u1).set (n * 5 + 2) u2).set (n * 5 + 3) u3).set (n * 5 + 4) u4) = fl ++ [u0, u1, u2, u3, u4] := by
    rw [← hfl]
    simp [List.set_append_right]
  rw [e] at h5
  exact h5

/-- Two stores into two blocks, in whatever order. -/
theorem comm_heap {w : World} {g B j k : Nat} {cg cb : Array Value} {Tg Tb : TypeId} (u0 u1 u2 u3 u4 x : Value) (hg : w.heap[g]? = some (.cells cg Tg (0, 0))) (hB : w.heap[B]? = some (.cells cb Tb (0, 0))) (hne : g ≠ B) :
    (set5 (w.setCell ⟨B, k, none⟩ x) g j u0 u1 u2 u3 u4).heap = ((set5 w g j u0 u1 u2 u3 u4).setCell ⟨B, k, none⟩ x).heap := by
  apply Array.ext_getElem?
  intro b
  by_cases h1 : b = g
  · subst h1
    rw [set5_heap u0 u1 u2 u3 u4 ((Below.heap_setCell w ⟨B, k, none⟩ x b (by show b ≠ B; exact hne)).trans hg), Below.heap_setCell _ ⟨B, k, none⟩ x b (by show b ≠ B; exact hne), set5_heap u0 u1 u2 u3 u4 hg]
  · rw [set5_other _ _ _ _ _ _ _ _ _ h1]
    by_cases h2 : b = B
    · subst h2
      rw [heap_setCell_same w b k _ _ _ hB, heap_setCell_same _ b k _ _ _ ((set5_other _ _ _ _ _ _ _ _ _ h1).trans hB)]
    · rw [Below.heap_setCell w ⟨B, k, none⟩ x b (by show b ≠ B; exact h2), Below.heap_setCell _ ⟨B, k, none⟩ x b (by show b ≠ B; exact h2), set5_other _ _ _ _ _ _ _ _ _ h1]

theorem put5_grown {w w6 : World} {x : Value} {g6 j : Nat} {u0 u1 u2 u3 u4 : Value} (h : w.grownBy w6 x.ownBlock) (hat : x.ownBlock = some g6 ∨ g6 = w.heap.size) : w.grownBy (set5 w6 g6 j u0 u1 u2 u3 u4) x.ownBlock := by
  have h5 := set5_grown w6 g6 j u0 u1 u2 u3 u4
  have hz := h.size
  refine ⟨h5.os.trans h.os, h5.tape.trans h.tape, h5.output.trans h.output, Nat.le_trans hz h5.size, fun b hb hne => (h5.block b (by omega) ?_).trans (h.block b hb hne)⟩
  rcases hat with e | e
  · rw [← e]; exact hne
  · simp; omega
theorem own_cells {w : World} {base g n cp : Nat} {xs : List Value} (h : w.ownsRow base 26 5 (.slice (some ⟨g, 0, none⟩) n cp) n xs) : ∃ cg, w.heap[g]? = some (.cells cg 26 (0, 0)) := by
  rcases h.2 with ⟨h', _⟩ | ⟨g', cap', cur, h', _, hg, _⟩
  · simp at h'
  · simp only [Value.slice.injEq, Option.some.injEq, Addr.mk.injEq, and_true, true_and] at h'
    obtain ⟨rfl, rfl⟩ := h'
    exact ⟨cur, hg⟩
theorem rinv_n {T : TypeId} {xs : List Int} {g : Nat} {a : Option Addr} {cap : Nat} {w1 : World} {B d : Nat} {kd : Int} {K : List (List Int)} {L : List (Vl d)} {p q : Int} {N : Nat} {wr : World} {xK : Value} {csK : List (List Value)} {BiK : List (List Nat)} {xL : Value} {csL : List (List Value)} {BiL : List (List Nat)} (h : RInv T xs g a cap w1 B d kd K L p q N wr xK csK BiK xL csL BiL) : RInv T xs g a cap w1 B d kd K L p q wr.heap.size wr xK csK BiK xL csL BiL := by
  obtain ⟨h1, h2, h3, h4, h5, h6, h7, h8⟩ := h
  exact ⟨h1, h2, h3, h4, h5, fun b hb => Nat.lt_of_lt_of_le (h6 b hb) h7, Nat.le_refl _, h8⟩

/-- The contract of value: so many parts may still come. -/
def RiAt (dp : Nat) : Prop := ∀ (xs : List Int) (g : Nat) (a : Option Addr) (cap : Nat) (p q : Int) (w : World), RdC 49 xs w g a cap p q → 0 ≤ q → q ≤ 40 → 40 - q ≤ dp → Calls Tryz.prog 21 #[.pointer (some ⟨g, 0, none⟩)] w (RdEnd 49 xs g a cap w (dp + 1) (rdV xs dp p (40 - q)).1 (rdV xs dp p (40 - q)).2.1 (40 - (rdV xs dp p (40 - q)).2.2))

/-- What stands while the parts are read. -/
def RTt (xs : List Int) (g : Nat) (a : Option Addr) (cap : Nat) (dp : Nat) (w4 : World) (B : Nat) (kd q0 : Int) (m : Bool) (N k : Nat) (fin : List (List Int) × List (Vl (dp + 1)) × Int × Int) (K : List (List Int)) (L : List (Vl (dp + 1))) (p q : Int) (wr : World) (pK : Option Addr) (cK : Nat) (csK : List (List Value)) (BiK : List (List Nat)) (pL : Option Addr) (cL : Nat) (csL : List (List Value)) (BiL : List (List Nat)) : Prop :=
  RInv 49 xs g a cap w4 B (dp + 1) kd K L p q wr.heap.size wr (.slice pK K.length cK) csK BiK (.slice pL L.length cL) csL BiL ∧ K.length ≤ k ∧ L.length ≤ k ∧ q0 ≤ q ∧ q ≤ 41 ∧ (40 < q → p < 0) ∧ (k < N → 0 ≤ p) ∧ rdK (fun a l => rdV xs dp a l) xs m (N - k) K L p (40 - q) = fin

/-- What holds leaves. -/
def HldEnd (xs : List Int) (g : Nat) (a : Option Addr) (cap : Nat) (dp B : Nat) (kd : Int) (fin : List (List Int) × List (Vl (dp + 1)) × Int × Int) (w : World) (e : Ending) (w' : World) : Prop :=
  e = .returned (.tuple #[]) ∧ ∃ (K : List (List Int)) (L : List (Vl (dp + 1))) (p q : Int) (pK : Option Addr) (cK : Nat) (pL : Option Addr) (cL : Nat), fin = (K, L, p, 40 - q) ∧ w'.heap[B]? = some (.cells #[.int .i64 kd, .int .i64 0, .slice none 0 0, .slice pK K.length cK, .slice pL L.length cL] 26 (0, 0)) ∧
    (∃ Bs, VOwn w' (dp + 1 + 1) (.int .i64 kd, .int .i64 0, .slice none 0 0, .slice pK K.length cK, .slice pL L.length cL) (kd, 0, [], K, L) Bs ∧ ∀ b ∈ Bs, w.heap.size ≤ b ∧ b < w'.heap.size) ∧ RdC 49 xs w' g a cap p q ∧
    (w'.os = w.os ∧ w'.tape = w.tape ∧ w'.output = w.output ∧ w.heap.size ≤ w'.heap.size ∧ ∀ b, b < w.heap.size → b ≠ B → b ≠ g → w'.heap[b]? = w.heap[b]?)

theorem hld_end {xs : List Int} {g : Nat} {a : Option Addr} {cap : Nat} {dp B : Nat} {kd : Int} {fin : List (List Int) × List (Vl (dp + 1)) × Int × Int} {w w1 wr : World} {K : List (List Int)} {L : List (Vl (dp + 1))} {p q : Int} {N : Nat} {pK : Option Addr} {cK : Nat} {csK : List (List Value)} {BiK : List (List Nat)} {pL : Option Addr} {cL : Nat} {csL : List (List Value)} {BiL : List (List Nat)} {e : Ending} (he : e = .returned (.tuple #[])) (hg : w.grownBy w1 (some g))
    (h : RInv 49 xs g a cap w1 B (dp + 1) kd K L p q N wr (.slice pK K.length cK) csK BiK (.slice pL L.length cL) csL BiL) (hf : fin = (K, L, p, 40 - q)) : HldEnd xs g a cap dp B kd fin w e wr := by
  obtain ⟨Bs, ho, hb⟩ := h.own
  have hz := hg.size
  refine ⟨he, K, L, p, q, pK, cK, pL, cL, hf, h.2.1, ⟨Bs, ho, fun b h => by have := hb b h; omega⟩, h.2.2.2.2.2.2.2.1, h.1.1.trans hg.os, h.1.2.1.trans hg.tape, h.1.2.2.1.trans hg.output, by have := h.1.2.2.2.1; omega, fun b hb1 hb2 hb3 => (h.1.2.2.2.2 b (by omega) hb2 hb3).trans (hg.block b hb1 (by simpa using hb3))⟩
end Go.Proofs.YthnkedbmfhokiaaGreatDoor
/-
  ValBytes of the program: putPart of a list.
-/
namespace Go.Proofs.YthnkedbmfhokiaaGreatDoor
open Go.RowKit Go.Shelf
set_option linter.unusedVariables false
set_option linter.unusedSimpArgs false

/-- The contract of putPart at depth d. -/
def PByAt (d : Nat) : Prop := ∀ (N : Nat) (a : Option Addr) (cap : Nat) (xs : List Int) (p : Value) (v : Vl d) (deep : Nat) (w : World), PSeg (fun b => b < N) w d p v → N ≤ w.heap.size → Seg w a xs → (a = none → cap = 0) → goodB d v deep = true → partsV d v ≤ 40 → xs.length + 60 * partsV d v ≤ 1000000 →
  Calls Tryz.prog 18 #[.slice a xs.length cap, p] w (PPEnd w (bytV d v xs))

theorem row1 {w : World} {b : Nat} {c : Value} {t : TypeId} (h : w.heap[b]? = some (.cells #[c] t (0, 0))) : w.cell? ⟨b, 0, none⟩ = some c := by
  rw [cell_of_row w b 0 _ _ _ h]
  rfl

set_option maxHeartbeats 2000000 in
set_option maxRecDepth 100000 in
theorem putPart_list (d : Nat) (ih : PByAt d) (N : Nat) (a : Option Addr) (cap : Nat) (xs : List Int) (vK : List (List Int)) (vL : List (Vl d)) (la : Option Addr) (lc : Nat) (deep : Nat) (w : World) (hN : N ≤ w.heap.size) (hs : Seg w a xs) (ka : a = none → cap = 0)
    (hL : PLSeg (fun b => b < N) w d (.slice la vL.length lc) vL) (hg : ∀ j (h : j < vL.length), goodB d vL[j] deep = true) (hp : 1 + pre (partsV d) vL vL.length ≤ 40) (hn : vL.length ≤ 1000) (hlen : xs.length + 60 * (1 + pre (partsV d) vL vL.length) ≤ 1000000) :
    Calls Tryz.prog 18 #[.slice a xs.length cap, .iface 74 (.agg #[.slice la vL.length lc])] w (PPEnd w (kidB (fun x b => bytV d x b) false vK vL (putNum (putNum xs 4) vL.length) vL.length)) := by
  have m1 := meth_listPart (.agg #[.slice la vL.length lc])
  have t1 := nobool_listPart (.agg #[.slice la vL.length lc])
  have t2 := noint_listPart (.agg #[.slice la vL.length lc])
  have t3 := notext_listPart (.agg #[.slice la vL.length lc])
  have t4 := is_listPart (.agg #[.slice la vL.length lc])
  have HK := hide' (kind_listPart la vL.length lc)
  have HI := hide' ih
  have HG := hide' hg
  have HL := hide' hL
  have H1 : Hid (∀ wx, Below w.heap.size w wx → Calls Tryz.prog 33 #[.slice a xs.length cap, .int .i64 4] wx (PEnd wx (putNum xs 4))) := fun wx hb => impl_PutNum_end a cap xs 4 wx (hs.grow hb) ka (by omega)
  have hpl := putNum_len xs 4
  have hpl2 := putNum_len (putNum xs 4) vL.length
  obtain ⟨B0, hB0⟩ : ∃ B0, B0 = putNum (putNum xs 4) vL.length := ⟨_, rfl⟩
  rw [← hB0] at hpl2
  rw [← hB0]
  have HRoom : Hid (∀ k (h : k < vL.length), (kidB (fun x b => bytV d x b) false vK vL B0 k).length + 25 + 60 * partsV d vL[k] ≤ 1000000) := fun k h => kid_room d false vK vL B0 1000000 (by omega) k h
  have HPk : Hid (∀ k (h : k < vL.length), partsV d vL[k] ≤ 40) := fun k h => by
    have h3 := pre_succ (partsV d) vL k h
    have h4 := pre_le (partsV d) vL (k + 1)
    have h5 := pre_all (partsV d) vL
    omega
  have HSt : Hid (∀ k (h : k < vL.length), kidB (fun x b => bytV d x b) false vK vL B0 (k + 1) = bytV d vL[k] (kidB (fun x b => bytV d x b) false vK vL B0 k)) := fun k h => kid_list d vK vL B0 k h
  have HZ : Hid (kidB (fun x b => bytV d x b) false vK vL B0 0 = B0) := rfl
  generalize hkid : kidB (fun x b => bytV d x b) false vK vL B0 = kid at *
  have hP2 : Hid (∀ (a1 : Option Addr) (c1 : Nat) (wx : World), Seg wx a1 (putNum xs 4) → (a1 = none → c1 = 0) → Calls Tryz.prog 33 #[.slice a1 (putNum xs 4).length c1, .int .i64 vL.length] wx (PEnd wx B0)) := fun a1 c1 wx hB k => by rw [hB0]; exact impl_PutNum_end a1 c1 _ _ wx hB k (by omega)
  obtain ⟨ob, HOb⟩ : ∃ ob, Hid (ob = Obj.cells #[.slice la vL.length lc] 74) := ⟨_, rfl⟩
  clear hs hL hg ih hlen hkid hB0 hp
  go_enter Tryz.func18, Tryz.ntmps18
  go_wp2_with fail
  refine (HK.out _).mono ?_
  rintro e w1 ⟨rfl, b1⟩
  have B1 := b1
  clear b1
  go_wp2_with fail
  refine (H1.out _ B1).mono ?_
  rintro e w2 ⟨a1, c1, rfl, hB1, b2, k1⟩
  have B2 := Below.on B1 b2
  have HA : Hid (∀ o : Obj, Below w.heap.size w (w2.alloc o)) := fun o => Below.on B2 ((Below.refl _ _).alloc (Nat.le_refl _) o)
  have H2 : Hid (∀ o : Obj, Calls Tryz.prog 33 #[.slice a1 (putNum xs 4).length c1, .int .i64 vL.length] (w2.alloc o) (PEnd (w2.alloc o) B0)) := fun o => hP2.out a1 c1 (w2.alloc o) (hB1.seg.grow ((Below.refl _ _).alloc (Nat.le_refl _) o)) k1
  generalize (putNum xs 4).length = n1 at *
  clear b2 hB1 HK m1 hP2
  go_wp2_with fail
  refine (H2.out _).mono ?_
  rintro e w3 ⟨a3, c3, rfl, hB3, b3, k3⟩
  have y0 := row1 (box_row b3)
  have B3 := Below.on (HA.out _) b3
  have HB3 : Hid (Bts w3 w.heap.size (.slice a3 B0.length c3) B0) := hB3.mono (HA.out _).size
  generalize hn0 : B0.length = n0 at *
  clear b3 hB3 H2 hn0 t1 t2 t3 t4
  go_wp2
  go_loopw [0, 52] (fun y i wr => ∃ k : Nat, k ≤ vL.length ∧ i = .int .i64 k ∧ Hid (Bts wr w.heap.size y (kid k)) ∧ Below w.heap.size w wr) (fun _ i _ => vL.length - (intOf i).toNat)
  case atStart => exact ⟨0, Nat.zero_le _, rfl, by rw [HZ.out]; exact HB3, B3⟩
  case round =>
    obtain ⟨k, hk, rfl, hB, B⟩ := hrel
    obtain ⟨ya, yc, rfl, _, _, _, _, kk⟩ := hB.out.shape
    have hz := B.size
    by_cases hlt : k < vL.length
    · have hlt' : (k : Int) < (vL.length : Int) := by omega
      have hroom := HRoom.out k hlt
      obtain ⟨b, off, t, px, rfl, hR, hc, hps⟩ := HL.out.at hlt
      have hcell := (cell_agree (agree_below (B.mono hN)) hR).trans hc
      have HC := hide' (HI.out N ya yc (kid k) (.iface t px) vL[k] deep wr (PSeg.carry (fun b h => h) (agree_below (B.mono hN)) d hps) (by omega) hB.out.seg kk (HG.out k hlt) (HPk.out k hlt) (by omega))
      rw [← HSt.out k hlt] at HC
      generalize (kid k).length = n2 at *
      clear hps hB hc
      go_wp2_with fail
      refine HC.out.mono ?_
      rintro e w4 ⟨u, rfl, hB4, b4⟩
      have B4 := Below.on B b4
      have HB4 : Hid (Bts w4 w.heap.size u (kid (k + 1))) := hB4.mono (by omega)
      obtain ⟨ya4, yc4, hu, _, _, _, _, _⟩ := hB4.shape
      generalize (kid (k + 1)).length = n3 at *
      subst hu
      clear b4 HC hB4 hcell
      go_wp2
      go_roundw
      case rel => exact ⟨k + 1, by omega, by go_num, HB4, B4⟩
      case measure => simp [intOf]; omega
    · have hkn : k = vL.length := by omega
      have hlt' : ¬ (k : Int) < (vL.length : Int) := by omega
      have HE : Hid (Bts wr w.heap.size (.slice ya (kid k).length yc) (kid vL.length)) := by rw [← hkn]; exact hB
      clear hkn hB
      generalize (kid k).length = n1' at *
      go_wp2
      go_ret
      exact ⟨_, rfl, HE.out, B⟩
end Go.Proofs.YthnkedbmfhokiaaGreatDoor
/-
  ValOk of the program: it tells whether a value may be, and turns nothing old; no statement is proved here.
-/
namespace Go.Proofs.YthnkedbmfhokiaaGreatDoor
open Go.RowKit
set_option linter.unusedVariables false
set_option linter.unusedSimpArgs false

set_option maxHeartbeats 1600000 in
theorem impl_ValOk_any (d N : Nat) (c0 c1 c2 c3 c4 : Value) (v : Vl d) (w : World) (hv : VSeg (fun b => b < N) w d (c0, c1, c2, c3, c4) v) (hN : N ≤ w.heap.size) :
    Calls Tryz.prog 7 #[.agg #[c0, c1, c2, c3, c4]] w fun e w' => e = .returned (.bool (okB d v)) ∧ Below w.heap.size w w' := by
  have b0 : ∀ o : Obj, Below w.heap.size w (w.alloc o) := fun o => (Below.refl _ _).alloc (Nat.le_refl _) o
  have HC : Hid (∀ o : Obj, Calls Tryz.prog 17 #[.agg #[c0, c1, c2, c3, c4]] (w.alloc o) (PartEnd d v (w.alloc o))) := fun o =>
    partOf_any d N c0 c1 c2 c3 c4 v (w.alloc o) (VSeg.agree (agree_below ((b0 o).mono hN)) d hv) (by have := (b0 o).size; omega)
  have Hb := hide' b0
  clear b0
  go_enter Tryz.func7, Tryz.ntmps7
  go_wp2_with fail
  refine (HC.out _).mono ?_
  rintro e w1 ⟨b1, hcase⟩
  have B1 := Below.on (Hb.out _) b1
  rcases hcase with ⟨p, rfl, h1, _⟩ | ⟨rfl, h1⟩
  · have H1 := hide' h1
    clear b1 h1
    go_wp2
    go_ret
    exact ⟨ret_bool H1.out.symm, B1⟩
  · have H1 := hide' h1
    clear b1 h1
    go_wp2
    go_ret
    exact ⟨ret_bool H1.out.symm, B1⟩
end Go.Proofs.YthnkedbmfhokiaaGreatDoor
/-
  kids of whatever part; countParts and depthOf at every depth.
-/
namespace Go.Proofs.YthnkedbmfhokiaaGreatDoor
open Go.RowKit
set_option linter.unusedVariables false
set_option linter.unusedSimpArgs false

theorem shape_leaf {vk vn : Int} {vs : List Int} {vK : List (List Int)} {n : Nat} (h : shapeB vk vn vs vK n = true) (h4 : vk ≠ 4) (h5 : vk ≠ 5) : n = 0 := by
  unfold shapeB bareB at h
  simp [h4, h5] at h
  exact h.1.2

theorem shape_mp {vn : Int} {vs : List Int} {vK : List (List Int)} {n : Nat} (h : shapeB 5 vn vs vK n = true) : vK.length = n ∧ ascB vK = true := by
  unfold shapeB at h
  simp at h
  exact h.2

theorem getD_range (ps : List Value) (n i : Nat) (h : i < n) : ((List.range n).map fun i => ps.getD i .nilIface)[i]? = some (ps.getD i .nilIface) := by
  simp [h]

theorem kids_any (d N : Nat) (p : Value) (v : Vl (d + 1)) (deep : Nat) (w : World) (hp : PSeg (fun b => b < N) w (d + 1) p v) (hN : N ≤ w.heap.size) (hg : goodB (d + 1) v deep = true) (hn : v.2.2.2.2.length ≤ 40) :
    Calls Tryz.prog 48 #[p] w fun e w' => ∃ u, e = .returned u ∧ PLSeg (fun b => b < w'.heap.size) w' d u v.2.2.2.2 ∧ Below w.heap.size w w' := by
  obtain ⟨vk, vn, vs, vK, vL⟩ := v
  have hsh := ((good_succ _ _ _ _ _ _ _).1 hg).2.1
  simp only at hn ⊢
  have leaf : vL.length = 0 → ∀ w' : World, PLSeg (fun b => b < w'.heap.size) w' d (.slice none 0 0) vL := by
    intro h0 w'
    have : vL = [] := List.eq_nil_of_length_eq_zero h0
    exact ⟨none, 0, by rw [h0], .inl this⟩
  rcases hp with ⟨hk, rfl⟩ | ⟨hk, rfl⟩ | ⟨hk, rfl⟩ | ⟨hk, rfl⟩ | ⟨hk, rfl⟩ | ⟨hk, a, cap, rfl, hc⟩ | ⟨hk, b, ps, rfl, hR, hm, hc⟩
  · simp only at hk
    exact (kids_nullPart _ w).mono fun e w' ⟨he, hw⟩ => ⟨_, he, leaf (shape_leaf hsh (by omega) (by omega)) w', hw ▸ Below.refl _ _⟩
  · simp only at hk
    exact (kids_unknownPart _ w).mono fun e w' ⟨he, hw⟩ => ⟨_, he, leaf (shape_leaf hsh (by omega) (by omega)) w', hw ▸ Below.refl _ _⟩
  · simp only at hk
    exact (kids_boolPart _ w).mono fun e w' ⟨he, hw⟩ => ⟨_, he, leaf (shape_leaf hsh (by omega) (by omega)) w', hw ▸ Below.refl _ _⟩
  · simp only at hk
    exact (kids_intPart _ w).mono fun e w' ⟨he, hw⟩ => ⟨_, he, leaf (shape_leaf hsh (by omega) (by omega)) w', hw ▸ Below.refl _ _⟩
  · simp only at hk
    exact (kids_textPart _ w).mono fun e w' ⟨he, hw⟩ => ⟨_, he, leaf (shape_leaf hsh (by omega) (by omega)) w', hw ▸ Below.refl _ _⟩
  · refine (kids_list a vL.length cap w).mono fun e w' ⟨he, hb⟩ => ⟨_, he, ⟨a, cap, rfl, ?_⟩, hb⟩
    have hsz := hb.size
    rcases hc with h0 | ⟨b, off, e1, hR, hc⟩
    · exact .inl h0
    · refine .inr ⟨b, off, e1, Nat.lt_of_lt_of_le hR (Nat.le_trans hN hsz), fun i hi => ?_⟩
      obtain ⟨u, hu, hv⟩ := hc i hi
      have ag := agree_below (hb.mono hN)
      exact ⟨u, (cell_agree ag hR).trans hu, PSeg.carry (fun b hb => Nat.lt_of_lt_of_le hb (Nat.le_trans hN hsz)) ag d hv⟩
  · simp only at hk hm hc
    subst hk
    obtain ⟨hkl, hasc⟩ := shape_mp hsh
    refine (kids_map b vL.length vK ps w hm (fun i hi => ascB_at hasc (by omega)) (fun i hi => (hc i hi).shape) hn).mono ?_
    rintro e w' ⟨u, rfl, hown, hb⟩
    have hsz := hb.size
    refine ⟨u, rfl, ?_, hb⟩
    rcases hown.2 with ⟨rfl, h0⟩ | ⟨g, cp, cur, rfl, hg, hh, hle, hm, hcs, ht⟩
    · exact leaf h0 w'
    · refine ⟨_, cp, rfl, ?_⟩
      by_cases he : vL = []
      · exact .inl he
      · refine .inr ⟨g, 0, rfl, (Array.getElem?_eq_some_iff.1 hh).1, fun i hi => ⟨ps.getD i .nilIface, ?_, PSeg.carry (fun b hb => Nat.lt_of_lt_of_le hb (Nat.le_trans hN hsz)) (agree_below (hb.mono hN)) d (hc i hi)⟩⟩
        have := hown.cellAt i (by omega)
        rw [Nat.zero_add, this]
        exact getD_range ps vL.length i hi

/-- The contract of a function of a part, at depth d. -/
def PAt (F : Nat) (ans : (d : Nat) → Vl d → Value) (d : Nat) : Prop := ∀ (N : Nat) (p : Value) (v : Vl d) (deep : Nat) (w : World), PSeg (fun b => b < N) w d p v → N ≤ w.heap.size → goodB d v deep = true → partsV d v ≤ 40 →
  Calls Tryz.prog F #[p] w fun e w' => e = .returned (ans d v) ∧ Below w.heap.size w w'

set_option maxHeartbeats 1600000 in
theorem countParts_succ (d : Nat) (ih : PAt 25 (fun d v => .int .i64 (partsV d v)) d) : PAt 25 (fun d v => .int .i64 (partsV d v)) (d + 1) := by
  intro N p v deep w hp hN hg hn
  obtain ⟨vk, vn, vs, vK, vL⟩ := v
  have hgd := ((good_succ _ _ _ _ _ _ _).1 hg).2.2
  have hps := parts_succ d vk vn vs vK vL
  have hlen : vL.length ≤ 40 := by have := pre_ge d vL vL.length (Nat.le_refl _); omega
  have HK := hide' (kids_any d N p _ deep w hp hN hg hlen)
  have HI := hide' ih
  have HG := hide' hgd
  have HP : Hid (∀ k (hk : k < vL.length), pre (partsV d) vL (k + 1) = pre (partsV d) vL k + partsV d vL[k]) := fun k hk => pre_succ (partsV d) vL k hk
  have HL : Hid (∀ k, pre (partsV d) vL k ≤ 39) := fun k => by
    have h1 := pre_le (partsV d) vL k
    have h2 := pre_all (partsV d) vL
    omega
  have HE := hide' hps
  obtain ⟨pt, px, rfl⟩ := hp.shape
  clear ih hgd hps hp hg hn
  go_enter Tryz.func25, Tryz.ntmps25
  go_wp2_with fail
  refine HK.out.mono ?_
  rintro e w1 ⟨u, rfl, hL, b1⟩
  have HLs := hide' hL
  have Hb1 := hide' b1
  obtain ⟨a, cap, rfl, _⟩ := hL
  clear b1 HK
  go_wp2
  go_loopw [3, 5, 9] (fun m _ i wr => ∃ k : Nat, k ≤ vL.length ∧ i = .int .i64 k ∧ m = .int .i64 ((1 + pre (partsV d) vL k : Nat) : Int) ∧ Below w1.heap.size w1 wr) (fun _ _ i _ => vL.length - (intOf i).toNat)
  case atStart => exact ⟨0, Nat.zero_le _, rfl, by rw [pre_zero]; rfl, Below.refl _ _⟩
  case round =>
    obtain ⟨k, hk, rfl, rfl, hbel⟩ := hrel
    have hsz := hbel.size
    by_cases hlt : k < vL.length
    · have hlt' : (k : Int) < (vL.length : Int) := by omega
      obtain ⟨b, off, qt, qx, rfl, hb, hcell, hq⟩ := (HLs.out.grow hbel).at hlt
      have hle := HL.out (k + 1)
      have hps := HP.out k hlt
      have hle0 := HL.out k
      have HC : Hid (Calls Tryz.prog 25 #[.iface qt qx] wr fun e w' => e = .returned (.int .i64 (partsV d vL[k])) ∧ Below wr.heap.size wr w') := HI.out w1.heap.size _ vL[k] (deep + 1) wr hq hsz (HG.out k hlt) (by omega)
      generalize pre (partsV d) vL k = q at *
      have Hps : Hid (pre (partsV d) vL (k + 1) = q + partsV d vL[k]) := hps
      have hle2 : q + partsV d vL[k] ≤ 39 := by omega
      generalize partsV d vL[k] = m at *
      clear hq hps hle
      go_wp2_with fail
      refine HC.out.mono ?_
      rintro e w2 ⟨rfl, b2⟩
      have B2 := Below.on hbel b2
      clear hcell HC b2
      go_wp2
      go_roundw
      case rel => exact ⟨k + 1, by omega, by go_num, by rw [Hps.out]; go_num, B2⟩
      case measure => simp [intOf]; omega
    · have hkn : k = vL.length := by omega
      have hkn' : ¬ (k : Int) < (vL.length : Int) := by omega
      rw [hkn]
      have B := Below.on Hb1.out hbel
      have HO : Hid (partsV (d + 1) (vk, vn, vs, vK, vL) = 1 + pre (partsV d) vL vL.length) := HE.out
      generalize pre (partsV d) vL vL.length = q at *
      rw [hkn] at hkn'
      clear hkn
      go_wp2
      go_ret
      exact ⟨by rw [HO.out]; rfl, B⟩

set_option maxHeartbeats 1600000 in
theorem depthOf_succ (d : Nat) (ih : PAt 26 (fun d v => .int .i64 (deepV d v)) d) : PAt 26 (fun d v => .int .i64 (deepV d v)) (d + 1) := by
  intro N p v deep w hp hN hg hn
  obtain ⟨vk, vn, vs, vK, vL⟩ := v
  have hgd := ((good_succ _ _ _ _ _ _ _).1 hg).2.2
  have hps := parts_succ d vk vn vs vK vL
  have hlen : vL.length ≤ 40 := by have := pre_ge d vL vL.length (Nat.le_refl _); omega
  have HK := hide' (kids_any d N p _ deep w hp hN hg hlen)
  have HI := hide' ih
  have HG := hide' hgd
  have HP : Hid (∀ k (hk : k < vL.length), mx (deepV d) vL (k + 1) = max (mx (deepV d) vL k) (deepV d vL[k])) := fun k hk => mx_succ (deepV d) vL k hk
  have HKp : Hid (∀ k (hk : k < vL.length), partsV d vL[k] ≤ 40) := fun k hk => (kid_parts hk hn).1
  have HL : Hid (∀ k, k ≤ vL.length → mx (deepV d) vL k ≤ 39) := fun k hk => by
    have h1 := mx_le_pre (deepV d) (partsV d) vL (deep_le d) k hk
    have h2 := pre_le (partsV d) vL k
    have h3 := pre_all (partsV d) vL
    omega
  have HE := hide' (deep_succ d vk vn vs vK vL)
  obtain ⟨pt, px, rfl⟩ := hp.shape
  clear ih hgd hps hp hg hn
  go_enter Tryz.func26, Tryz.ntmps26
  go_wp2_with fail
  refine HK.out.mono ?_
  rintro e w1 ⟨u, rfl, hL, b1⟩
  have HLs := hide' hL
  have Hb1 := hide' b1
  obtain ⟨a, cap, rfl, _⟩ := hL
  clear b1 HK
  go_wp2
  go_loopw [3, 5, 9] (fun m _ i wr => ∃ k : Nat, k ≤ vL.length ∧ i = .int .i64 k ∧ m = .int .i64 ((mx (deepV d) vL k : Nat) : Int) ∧ Below w1.heap.size w1 wr) (fun _ _ i _ => vL.length - (intOf i).toNat)
  case atStart => exact ⟨0, Nat.zero_le _, rfl, by rw [mx_zero]; rfl, Below.refl _ _⟩
  case round =>
    obtain ⟨k, hk, rfl, rfl, hbel⟩ := hrel
    have hsz := hbel.size
    by_cases hlt : k < vL.length
    · have hlt' : (k : Int) < (vL.length : Int) := by omega
      obtain ⟨b, off, qt, qx, rfl, hb, hcell, hq⟩ := (HLs.out.grow hbel).at hlt
      have hle := HL.out (k + 1) (by omega)
      have hps := HP.out k hlt
      have hle0 := HL.out k (by omega)
      have HC : Hid (Calls Tryz.prog 26 #[.iface qt qx] wr fun e w' => e = .returned (.int .i64 (deepV d vL[k])) ∧ Below wr.heap.size wr w') := HI.out w1.heap.size _ vL[k] (deep + 1) wr hq hsz (HG.out k hlt) (HKp.out k hlt)
      have hdl : deepV d vL[k] ≤ 40 := by have := deep_le d vL[k]; have := HKp.out k hlt; omega
      generalize mx (deepV d) vL k = q at *
      have Hps : Hid (mx (deepV d) vL (k + 1) = max q (deepV d vL[k])) := hps
      generalize deepV d vL[k] = m at *
      clear hq hps hle
      go_wp2_with fail
      refine HC.out.mono ?_
      rintro e w2 ⟨rfl, b2⟩
      have B2 := Below.on hbel b2
      clear hcell HC b2
      go_wp2
      go_roundw
      case rel => exact ⟨k + 1, by omega, by go_num, by rw [Hps.out]; go_num, B2⟩
      case measure => simp [intOf]; omega
    · have hkn : k = vL.length := by omega
      have hkn' : ¬ (k : Int) < (vL.length : Int) := by omega
      rw [hkn]
      have B := Below.on Hb1.out hbel
      have HO : Hid (deepV (d + 1) (vk, vn, vs, vK, vL) = mx (deepV d) vL vL.length + 1) := HE.out
      have hle := HL.out vL.length (Nat.le_refl _)
      generalize mx (deepV d) vL vL.length = q at *
      rw [hkn] at hkn'
      clear hkn
      go_wp2
      go_ret
      exact ⟨by rw [HO.out]; rfl, B⟩

end Go.Proofs.YthnkedbmfhokiaaGreatDoor
/-
  cmpParts of the program at every depth.
-/
namespace Go.Proofs.YthnkedbmfhokiaaGreatDoor
open Go.RowKit
set_option linter.unusedVariables false
set_option linter.unusedSimpArgs false

end Go.Proofs.YthnkedbmfhokiaaGreatDoor
/-
  known of a part at every depth: a method of an interface value, by the value's own type.
-/
namespace Go.Proofs.YthnkedbmfhokiaaGreatDoor
open Go.RowKit Go.Shelf
set_option linter.unusedVariables false
set_option linter.unusedSimpArgs false

theorem countParts_any (d : Nat) : PAt 25 (fun d v => .int .i64 (partsV d v)) d := by
  induction d with
  | zero => intro N p v deep w hv; exact hv.elim
  | succ d ih => exact countParts_succ d ih
theorem depthOf_any (d : Nat) : PAt 26 (fun d v => .int .i64 (deepV d v)) d := by
  induction d with
  | zero => intro N p v deep w hv; exact hv.elim
  | succ d ih => exact depthOf_succ d ih
end Go.Proofs.YthnkedbmfhokiaaGreatDoor
/-
  FnExactValCmp answers true, whatever two values it is handed; it makes new memory and turns nothing old.
-/
namespace Go.Proofs.YthnkedbmfhokiaaGreatDoor
open Go.RowKit
set_option linter.unusedVariables false
set_option linter.unusedSimpArgs false

theorem rows2 {w wx : World} {o o' : Obj} (h : Below ((w.alloc o).alloc o').heap.size ((w.alloc o).alloc o') wx) : wx.heap[w.heap.size]? = some o ∧ wx.heap[w.heap.size + 1]? = some o' := by
  obtain ⟨h1, h2⟩ := two_boxes w o o'
  have hz := size2 w o o'
  exact ⟨(h.block _ (by omega)).trans h1, (h.block _ (by omega)).trans h2⟩

theorem VOwn.at {w w' : World} {d : Nat} {c : Value × Value × Value × Value × Value} {v : Vl d} {B : List Nat} (h : VOwn w d c v B) (hb : Below w.heap.size w w') : VSeg (fun b => b < w.heap.size) w' d c v :=
  VSeg.agree (agree_below hb) d (VSeg.mono (fun b hb => VOwn.lt d h b hb) d (VOwn.seg d h))

end Go.Proofs.YthnkedbmfhokiaaGreatDoor
/-
  What the laws of a value's count, depth and knownness lean on besides; no statement is proved here.
-/
namespace Go.Proofs.YthnkedbmfhokiaaGreatDoor
open Go.RowKit
set_option linter.unusedVariables false

theorem okB_cnt {d : Nat} {v : Vl d} (h : okB d v = true) : goodB d v 1 = true ∧ partsV d v ≤ 40 := by
  unfold okB at h
  simp only [Bool.and_eq_true, decide_eq_true_eq] at h
  exact h
end Go.Proofs.YthnkedbmfhokiaaGreatDoor
/-
  Good values that are alike have the same bytes. Plain mathematics.
-/
namespace Go.Proofs.YthnkedbmfhokiaaGreatDoor
open Go.RowKit
set_option linter.unusedVariables false
set_option linter.unusedSimpArgs false

end Go.Proofs.YthnkedbmfhokiaaGreatDoor
/-
  FnExactValParts answers true, whatever value it is handed; it makes new memory and turns nothing old.
-/
namespace Go.Proofs.YthnkedbmfhokiaaGreatDoor
open Go.RowKit
set_option linter.unusedVariables false
set_option linter.unusedSimpArgs false

set_option maxHeartbeats 1600000 in
theorem impl_ValParts_any (d N : Nat) (c0 c1 c2 c3 c4 : Value) (v : Vl d) (w : World) (hv : VSeg (fun b => b < N) w d (c0, c1, c2, c3, c4) v) (hN : N ≤ w.heap.size) :
    Calls Tryz.prog 11 #[.agg #[c0, c1, c2, c3, c4]] w fun e w' => e = .returned (.int .i64 (ansValParts d v)) ∧ Below w.heap.size w w' := by
  have b0 : ∀ o : Obj, Below w.heap.size w (w.alloc o) := fun o => (Below.refl _ _).alloc (Nat.le_refl _) o
  have HC : Hid (∀ o : Obj, Calls Tryz.prog 17 #[.agg #[c0, c1, c2, c3, c4]] (w.alloc o) (PartEnd d v (w.alloc o))) := fun o =>
    partOf_any d N c0 c1 c2 c3 c4 v (w.alloc o) (VSeg.agree (agree_below ((b0 o).mono hN)) d hv) (by have := (b0 o).size; omega)
  have Hb := hide' b0
  clear b0
  go_enter Tryz.func11, Tryz.ntmps11
  go_wp2_with fail
  refine (HC.out _).mono ?_
  rintro e w1 ⟨b1, hcase⟩
  have B1 := hide' (Below.on (Hb.out _) b1)
  rcases hcase with ⟨p, rfl, h1, h2⟩ | ⟨rfl, h1⟩
  · have hok := okB_cnt h1
    have HF : Hid (Calls Tryz.prog 25 #[p] w1 fun e w' => e = .returned (.int .i64 (partsV d v)) ∧ Below w1.heap.size w1 w') := countParts_any d w1.heap.size p v 1 w1 (PSeg.carry (fun b hb => hb.2) (fun b _ => rfl) d h2) (Nat.le_refl _) hok.1 hok.2
    have H1 : Hid (ansValParts d v = partsV d v) := by show ansValParts d v = partsV d v; simp [ansValParts, h1]
    clear b1 h1 h2 hok
    go_wp2_with fail
    refine HF.out.mono ?_
    rintro e w2 ⟨rfl, b2⟩
    have B2 := Below.on B1.out b2
    go_wp2
    go_ret
    exact ⟨by rw [H1.out]; rfl, B2⟩
  · have H1 : Hid (ansValParts d v = 0) := by show ansValParts d v = 0; simp [ansValParts, h1]
    clear b1 h1
    go_wp2
    go_ret
    exact ⟨by rw [H1.out]; rfl, B1.out⟩

end Go.Proofs.YthnkedbmfhokiaaGreatDoor
/-
  FnExactValDeep answers true, whatever value it is handed; it makes new memory and turns nothing old.
-/
namespace Go.Proofs.YthnkedbmfhokiaaGreatDoor
open Go.RowKit
set_option linter.unusedVariables false
set_option linter.unusedSimpArgs false

set_option maxHeartbeats 1600000 in
theorem impl_ValDeep_any (d N : Nat) (c0 c1 c2 c3 c4 : Value) (v : Vl d) (w : World) (hv : VSeg (fun b => b < N) w d (c0, c1, c2, c3, c4) v) (hN : N ≤ w.heap.size) :
    Calls Tryz.prog 12 #[.agg #[c0, c1, c2, c3, c4]] w fun e w' => e = .returned (.int .i64 (ansValDeep d v)) ∧ Below w.heap.size w w' := by
  have b0 : ∀ o : Obj, Below w.heap.size w (w.alloc o) := fun o => (Below.refl _ _).alloc (Nat.le_refl _) o
  have HC : Hid (∀ o : Obj, Calls Tryz.prog 17 #[.agg #[c0, c1, c2, c3, c4]] (w.alloc o) (PartEnd d v (w.alloc o))) := fun o =>
    partOf_any d N c0 c1 c2 c3 c4 v (w.alloc o) (VSeg.agree (agree_below ((b0 o).mono hN)) d hv) (by have := (b0 o).size; omega)
  have Hb := hide' b0
  clear b0
  go_enter Tryz.func12, Tryz.ntmps12
  go_wp2_with fail
  refine (HC.out _).mono ?_
  rintro e w1 ⟨b1, hcase⟩
  have B1 := hide' (Below.on (Hb.out _) b1)
  rcases hcase with ⟨p, rfl, h1, h2⟩ | ⟨rfl, h1⟩
  · have hok := okB_cnt h1
    have HF : Hid (Calls Tryz.prog 26 #[p] w1 fun e w' => e = .returned (.int .i64 (deepV d v)) ∧ Below w1.heap.size w1 w') := depthOf_any d w1.heap.size p v 1 w1 (PSeg.carry (fun b hb => hb.2) (fun b _ => rfl) d h2) (Nat.le_refl _) hok.1 hok.2
    have H1 : Hid (ansValDeep d v = deepV d v) := by show ansValDeep d v = deepV d v; simp [ansValDeep, h1]
    clear b1 h1 h2 hok
    go_wp2_with fail
    refine HF.out.mono ?_
    rintro e w2 ⟨rfl, b2⟩
    have B2 := Below.on B1.out b2
    go_wp2
    go_ret
    exact ⟨by rw [H1.out]; rfl, B2⟩
  · have H1 : Hid (ansValDeep d v = 0) := by show ansValDeep d v = 0; simp [ansValDeep, h1]
    clear b1 h1
    go_wp2
    go_ret
    exact ⟨by rw [H1.out]; rfl, B1.out⟩

end Go.Proofs.YthnkedbmfhokiaaGreatDoor
