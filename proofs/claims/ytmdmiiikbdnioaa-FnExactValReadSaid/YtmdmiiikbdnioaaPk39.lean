/-
  Texts that a law leans on, one behind the other; no statement is proved here.
-/
import Derived.Test.YtmdmiiikbdnioaaPk35
import Derived.Test.YtmdmiiikbdnioaaPk11
import Derived.Deep.RegionLaw
import Derived.Deep.CutRange
/-
  Numbers and texts, as both readers take them from where they are. No statement is proved here.
-/
namespace Go.Proofs.Ytmdmiiikbdnioaa
open Go.RowKit
set_option linter.unusedVariables false
set_option linter.unusedSimpArgs false

/-- What a number's reading leaves. -/
def NumEnd (T : TypeId) (xs : List Int) (g : Nat) (a : Option Addr) (cap : Nat) (p q : Int) (w : World) (e : Ending) (w' : World) : Prop := e = .returned (.int .i64 (getNum xs p).1) ∧ RdC T xs w' g a cap (getNum xs p).2 q ∧ w.grownBy w' (some g)
/-- .. and a text's. -/
def TxtEnd (T : TypeId) (xs : List Int) (g : Nat) (a : Option Addr) (cap : Nat) (p q : Int) (w : World) (e : Ending) (w' : World) : Prop := ∃ v, e = .returned v ∧ Bts w' w.heap.size v (getText xs p).1 ∧ RdC T xs w' g a cap (getText xs p).2 q ∧ w.grownBy w' (some g)

theorem num_neg {T : TypeId} {xs : List Int} {g : Nat} {a : Option Addr} {cap : Nat} {p q : Int} {w : World} (h : RdC T xs w g a cap p q) (hp : p < 0) : p = -1 ∧ getNum xs p = (0, -1) ∧ getText xs p = ([], -1) := by
  have h1 : p = -1 := by have := h.2.2.2.2.2.2.1; omega
  have h2 := getNum_neg xs p hp
  exact ⟨h1, h2, getText_no _ _ (by rw [h2]; simp)⟩

set_option maxHeartbeats 3200000 in
set_option maxRecDepth 100000 in
theorem spec_l2get_any (xs : List Int) (g : Nat) (a : Option Addr) (cap : Nat) (p q : Int) (w : World) (h : RdC 37 xs w g a cap p q) :
    Calls Try.prog 27 #[.pointer (some ⟨g, 0, none⟩)] w (NumEnd 37 xs g a cap p q w) := by
  obtain ⟨r0, r1, r2, rf⟩ := row3r h.1
  have f1 := rf 1
  clear rf
  have Hh := hide' h
  by_cases hp : p < 0
  · obtain ⟨rfl, e1, e2⟩ := num_neg h hp
    have He := hide' e1
    clear h e1 e2
    unfold NumEnd
    go_enter Try.func27, Try.ntmps27
    go_wp2
    go_ret
    rw [He.out]
    exact ⟨rfl, Hh.out, World.grownBy.refl _ _⟩
  · have hg := get_at xs p h.2.1.1
    have HC : Hid (∀ wy : World, wy.heap = w.heap → wy.os = w.os → wy.tape = w.tape → wy.output = w.output → Calls Try.prog 41 #[.slice a xs.length cap, .int .i64 p] wy fun e w' => e = .returned (.tuple #[.int .i64 (getNum xs p).1, .int .i64 (getNum xs p).2]) ∧ Below w.heap.size w w') := fun wy e0 e1 e2 e3 => (spec_GetNum_any a cap xs p wy (seg_kept h.2.1 fun x _ _ => by rw [e0]) (by have := h.2.2.2.2.2.1; omega) (by have := h.2.2.2.2.2; omega)).mono fun e w' hh => ⟨hh.1, hh.2.os.trans e1, hh.2.tape.trans e2, hh.2.output.trans e3, by have := hh.2.size; rw [e0] at this; exact this, fun b hb => by rw [hh.2.block b (by rw [e0]; exact hb), e0]⟩
    have HF : Hid (∀ w5, Below w.heap.size w w5 → RdC 37 xs (w5.setCell ⟨g, 1, none⟩ (.int .i64 (getNum xs p).2)) g a cap (getNum xs p).2 q ∧ w.grownBy (w5.setCell ⟨g, 1, none⟩ (.int .i64 (getNum xs p).2)) (some g) ∧ w5.frozen? ⟨g, 1, none⟩ = false ∧ ∃ v, w5.cell? ⟨g, 1, none⟩ = some v) := fun w5 hb => by
      have hc := h.below hb
      obtain ⟨_, s1, _, sf⟩ := row3r hc.1
      exact ⟨hc.at_ (by omega) (by omega), grownBy_trans ⟨hb.os, hb.tape, hb.output, hb.size, fun b hb' _ => hb.block b hb'⟩ (grown1 w5 g 1 _), sf 1, _, s1⟩
    clear h hg
    unfold NumEnd
    generalize getNum xs p = r at *
    obtain ⟨n, m⟩ := r
    simp only at HC HF
    generalize xs.length = nl at *
    go_enter Try.func27, Try.ntmps27
    go_wp2_with fail
    go_region_law (go_simp; go_at_call 41; refine (HC.out _ (by rfl) (by rfl) (by rfl) (by rfl)).mono ?_; rintro e w5 ⟨rfl, hb5⟩; obtain ⟨hd5, hg5, hf5, v5, hv5⟩ := HF.out w5 hb5; replace hd5 := hide' hd5; replace hg5 := hide' hg5; clear hb5)
    all_goals go_wp2
    all_goals go_ret
    all_goals exact ⟨rfl, hd5.out, hg5.out⟩
set_option maxHeartbeats 3200000 in
set_option maxRecDepth 100000 in
theorem spec_l2getText_any (xs : List Int) (g : Nat) (a : Option Addr) (cap : Nat) (p q : Int) (w : World) (h : RdC 37 xs w g a cap p q) :
    Calls Try.prog 28 #[.pointer (some ⟨g, 0, none⟩)] w (TxtEnd 37 xs g a cap p q w) := by
  obtain ⟨r0, r1, r2, rf⟩ := row3r h.1
  have f1 := rf 1
  clear rf
  have Hh := hide' h
  by_cases hp : p < 0
  · obtain ⟨rfl, e1, e2⟩ := num_neg h hp
    have He := hide' e2
    have Hn := bts_nil w w.heap.size
    clear h e1 e2
    unfold TxtEnd
    go_enter Try.func28, Try.ntmps28
    go_wp2
    go_ret
    rw [He.out]
    exact ⟨_, rfl, Hn, Hh.out, World.grownBy.refl _ _⟩
  · have hg := text_at xs p h.2.1.1
    have HC : Hid (∀ wy : World, wy.heap = w.heap → wy.os = w.os → wy.tape = w.tape → wy.output = w.output → Calls Try.prog 42 #[.slice a xs.length cap, .int .i64 p] wy fun e w' => ∃ v, e = .returned (.tuple #[v, .int .i64 (getText xs p).2]) ∧ Bts w' w.heap.size v (getText xs p).1 ∧ Below w.heap.size w w') := fun wy e0 e1 e2 e3 => (spec_GetText_any a cap xs p wy (seg_kept h.2.1 fun x _ _ => by rw [e0]) h.2.2.2.1 h.2.2.2.2.1 (by have := h.2.2.2.2.2.1; omega) (by have := h.2.2.2.2.2; omega)).mono fun e w' hh => by
      obtain ⟨v, h1, h2, h3⟩ := hh
      rw [e0] at h2
      exact ⟨v, h1, h2, h3.os.trans e1, h3.tape.trans e2, h3.output.trans e3, by have := h3.size; rw [e0] at this; exact this, fun b hb => by rw [h3.block b (by rw [e0]; exact hb), e0]⟩
    have HF : Hid (∀ w5, Below w.heap.size w w5 → RdC 37 xs (w5.setCell ⟨g, 1, none⟩ (.int .i64 (getText xs p).2)) g a cap (getText xs p).2 q ∧ w.grownBy (w5.setCell ⟨g, 1, none⟩ (.int .i64 (getText xs p).2)) (some g) ∧ w5.frozen? ⟨g, 1, none⟩ = false ∧ ∃ v, w5.cell? ⟨g, 1, none⟩ = some v) := fun w5 hb => by
      have hc := h.below hb
      obtain ⟨_, s1, _, sf⟩ := row3r hc.1
      exact ⟨hc.at_ (by omega) (by omega), grownBy_trans ⟨hb.os, hb.tape, hb.output, hb.size, fun b hb' _ => hb.block b hb'⟩ (grown1 w5 g 1 _), sf 1, _, s1⟩
    have hgl := h.lt
    have HB : Hid (∀ (w5 : World) (v : Value) (m : Int), Bts w5 w.heap.size v (getText xs p).1 → Bts (w5.setCell ⟨g, 1, none⟩ (.int .i64 m)) w.heap.size v (getText xs p).1) := fun w5 v m hv => hv.kept (grown1 w5 g 1 _) (by
      cases hvo : v.ownBlock with
      | none => exact .inl rfl
      | some k => right; have := (hv.2.lt k hvo).1; simp; omega)
    clear h hg hgl
    unfold TxtEnd
    generalize getText xs p = r at *
    obtain ⟨ys, m⟩ := r
    simp only at HC HF
    generalize xs.length = nl at *
    go_enter Try.func28, Try.ntmps28
    go_wp2_with fail
    go_region_law (go_simp; go_at_call 42; refine (HC.out _ (by rfl) (by rfl) (by rfl) (by rfl)).mono ?_; rintro e w5 ⟨v, rfl, hv, hb5⟩; obtain ⟨av, cv, hsv, _⟩ := hv.shape; generalize hyl : ys.length = yl at hsv; subst hsv; subst hyl; replace hv := hide' hv; obtain ⟨hd5, hg5, hf5, v5, hv5⟩ := HF.out w5 hb5; replace hd5 := hide' hd5; replace hg5 := hide' hg5; clear hb5)
    all_goals go_wp2
    all_goals go_ret
    all_goals exact ⟨_, rfl, HB.out _ _ _ hv.out, hd5.out, hg5.out⟩
end Go.Proofs.Ytmdmiiikbdnioaa
/-
  The program's reader: numbers, texts, signed numbers. No statement is proved here.
-/
namespace Go.Proofs.Ytmdmiiikbdnioaa
open Go.RowKit
set_option linter.unusedVariables false
set_option linter.unusedSimpArgs false

set_option maxHeartbeats 3200000 in
set_option maxRecDepth 100000 in
theorem reader_num_any (xs : List Int) (g : Nat) (a : Option Addr) (cap : Nat) (p q : Int) (w : World) (h : RdC 42 xs w g a cap p q) :
    Calls Try.prog 33 #[.pointer (some ⟨g, 0, none⟩)] w (NumEnd 42 xs g a cap p q w) := by
  obtain ⟨r0, r1, r2, rf⟩ := row3r h.1
  have f1 := rf 1
  clear rf
  have hg := get_at xs p h.2.1.1
  have HC : Hid (∀ wy : World, wy.heap = w.heap → wy.os = w.os → wy.tape = w.tape → wy.output = w.output → Calls Try.prog 50 #[.slice a xs.length cap, .int .i64 p] wy fun e w' => e = .returned (.tuple #[.int .i64 (getNum xs p).1, .int .i64 (getNum xs p).2]) ∧ Below w.heap.size w w') := fun wy e0 e1 e2 e3 => (impl_GetNum_any a cap xs p wy (seg_kept h.2.1 fun x _ _ => by rw [e0]) (by have := h.2.2.2.2.2.1; omega) (by have := h.2.2.2.2.2; omega)).mono fun e w' hh => ⟨hh.1, hh.2.os.trans e1, hh.2.tape.trans e2, hh.2.output.trans e3, by have := hh.2.size; rw [e0] at this; exact this, fun b hb => by rw [hh.2.block b (by rw [e0]; exact hb), e0]⟩
  have HF : Hid (∀ w5, Below w.heap.size w w5 → RdC 42 xs (w5.setCell ⟨g, 1, none⟩ (.int .i64 (getNum xs p).2)) g a cap (getNum xs p).2 q ∧ w.grownBy (w5.setCell ⟨g, 1, none⟩ (.int .i64 (getNum xs p).2)) (some g) ∧ w5.frozen? ⟨g, 1, none⟩ = false ∧ ∃ v, w5.cell? ⟨g, 1, none⟩ = some v) := fun w5 hb => by
    have hc := h.below hb
    obtain ⟨_, s1, _, sf⟩ := row3r hc.1
    exact ⟨hc.at_ (by omega) (by omega), grownBy_trans ⟨hb.os, hb.tape, hb.output, hb.size, fun b hb' _ => hb.block b hb'⟩ (grown1 w5 g 1 _), sf 1, _, s1⟩
  clear h hg
  unfold NumEnd
  generalize getNum xs p = r at *
  obtain ⟨n, m⟩ := r
  simp only at HC HF
  generalize xs.length = nl at *
  go_enter Try.func33, Try.ntmps33
  go_wp2_with fail
  go_region_law (go_simp; go_at_call 50; refine (HC.out _ (by rfl) (by rfl) (by rfl) (by rfl)).mono ?_; rintro e w5 ⟨rfl, hb5⟩; obtain ⟨hd5, hg5, hf5, v5, hv5⟩ := HF.out w5 hb5; replace hd5 := hide' hd5; replace hg5 := hide' hg5; clear hb5)
  all_goals go_wp2
  all_goals go_ret
  all_goals exact ⟨rfl, hd5.out, hg5.out⟩
set_option maxHeartbeats 3200000 in
set_option maxRecDepth 100000 in
theorem reader_text_any (xs : List Int) (g : Nat) (a : Option Addr) (cap : Nat) (p q : Int) (w : World) (h : RdC 42 xs w g a cap p q) :
    Calls Try.prog 35 #[.pointer (some ⟨g, 0, none⟩)] w (TxtEnd 42 xs g a cap p q w) := by
  obtain ⟨r0, r1, r2, rf⟩ := row3r h.1
  have f1 := rf 1
  clear rf
  have hg := text_at xs p h.2.1.1
  have HC : Hid (∀ wy : World, wy.heap = w.heap → wy.os = w.os → wy.tape = w.tape → wy.output = w.output → Calls Try.prog 51 #[.slice a xs.length cap, .int .i64 p] wy fun e w' => ∃ v, e = .returned (.tuple #[v, .int .i64 (getText xs p).2]) ∧ Bts w' w.heap.size v (getText xs p).1 ∧ Below w.heap.size w w') := fun wy e0 e1 e2 e3 => (impl_GetText_any a cap xs p wy (seg_kept h.2.1 fun x _ _ => by rw [e0]) h.2.2.2.1 h.2.2.2.2.1 (by have := h.2.2.2.2.2.1; omega) (by have := h.2.2.2.2.2; omega)).mono fun e w' hh => by
    obtain ⟨v, h1, h2, h3⟩ := hh
    rw [e0] at h2
    exact ⟨v, h1, h2, h3.os.trans e1, h3.tape.trans e2, h3.output.trans e3, by have := h3.size; rw [e0] at this; exact this, fun b hb => by rw [h3.block b (by rw [e0]; exact hb), e0]⟩
  have HF : Hid (∀ w5, Below w.heap.size w w5 → RdC 42 xs (w5.setCell ⟨g, 1, none⟩ (.int .i64 (getText xs p).2)) g a cap (getText xs p).2 q ∧ w.grownBy (w5.setCell ⟨g, 1, none⟩ (.int .i64 (getText xs p).2)) (some g) ∧ w5.frozen? ⟨g, 1, none⟩ = false ∧ ∃ v, w5.cell? ⟨g, 1, none⟩ = some v) := fun w5 hb => by
    have hc := h.below hb
    obtain ⟨_, s1, _, sf⟩ := row3r hc.1
    exact ⟨hc.at_ (by omega) (by omega), grownBy_trans ⟨hb.os, hb.tape, hb.output, hb.size, fun b hb' _ => hb.block b hb'⟩ (grown1 w5 g 1 _), sf 1, _, s1⟩
  have hgl := h.lt
  have HB : Hid (∀ (w5 : World) (v : Value) (m : Int), Bts w5 w.heap.size v (getText xs p).1 → Bts (w5.setCell ⟨g, 1, none⟩ (.int .i64 m)) w.heap.size v (getText xs p).1) := fun w5 v m hv => hv.kept (grown1 w5 g 1 _) (by
    cases hvo : v.ownBlock with
    | none => exact .inl rfl
    | some k => right; have := (hv.2.lt k hvo).1; simp; omega)
  clear h hg hgl
  unfold TxtEnd
  generalize getText xs p = r at *
  obtain ⟨ys, m⟩ := r
  simp only at HC HF
  generalize xs.length = nl at *
  go_enter Try.func35, Try.ntmps35
  go_wp2_with fail
  go_region_law (go_simp; go_at_call 51; refine (HC.out _ (by rfl) (by rfl) (by rfl) (by rfl)).mono ?_; rintro e w5 ⟨v, rfl, hv, hb5⟩; obtain ⟨av, cv, hsv, _⟩ := hv.shape; generalize hyl : ys.length = yl at hsv; subst hsv; subst hyl; replace hv := hide' hv; obtain ⟨hd5, hg5, hf5, v5, hv5⟩ := HF.out w5 hb5; replace hd5 := hide' hd5; replace hg5 := hide' hg5; clear hb5)
  all_goals go_wp2
  all_goals go_ret
  all_goals exact ⟨_, rfl, HB.out _ _ _ hv.out, hd5.out, hg5.out⟩

/-- What a signed number's reading leaves. -/
def SgnEnd (xs : List Int) (g : Nat) (a : Option Addr) (cap : Nat) (p q : Int) (w : World) (e : Ending) (w' : World) : Prop :=
  e = .returned (.int .i64 (if (getNum xs p).1 = 1 then -((getNum xs (getNum xs p).2).1 * 1000000 + (getNum xs (getNum xs (getNum xs p).2).2).1) else (getNum xs (getNum xs p).2).1 * 1000000 + (getNum xs (getNum xs (getNum xs p).2).2).1)) ∧
    RdC 42 xs w' g a cap (getNum xs (getNum xs (getNum xs p).2).2).2 q ∧ w.grownBy w' (some g)

set_option maxHeartbeats 3200000 in
set_option maxRecDepth 100000 in
theorem reader_signed_any (xs : List Int) (g : Nat) (a : Option Addr) (cap : Nat) (p q : Int) (w : World) (h : RdC 42 xs w g a cap p q) :
    Calls Try.prog 34 #[.pointer (some ⟨g, 0, none⟩)] w (SgnEnd xs g a cap p q w) := by
  have hby := h.2.1.1
  have HL4 := hide' (reader_num_any xs g a cap p q w h)
  unfold SgnEnd
  have hr2 := get_at xs p hby
  clear h
  generalize hng : (getNum xs p).1 = ng at *
  generalize hp2 : (getNum xs p).2 = p2 at *
  have hN1 := hide' (And.intro hng hp2)
  clear hng hp2
  have hr3 := get_at xs p2 hby
  generalize hnA : (getNum xs p2).1 = nA at *
  generalize hp3 : (getNum xs p2).2 = p3 at *
  have hN2 := hide' (And.intro hnA hp3)
  clear hnA hp3
  have hr4 := get_at xs p3 hby
  generalize hnB : (getNum xs p3).1 = nB at *
  generalize hp4 : (getNum xs p3).2 = p4 at *
  have hN3 := hide' (And.intro hnB hp4)
  clear hnB hp4
  have HMu : Hid (IntKind.i64.wrap (nA * 1000000) = nA * 1000000) := hide' (by simp only [IntKind.wrap, IntKind.bits, IntKind.signed]; simp; omega)
  have HAd : Hid (IntKind.i64.wrap (nA * 1000000 + nB) = nA * 1000000 + nB) := hide' (by simp only [IntKind.wrap, IntKind.bits, IntKind.signed]; simp; omega)
  have HNe : Hid (IntKind.i64.wrap (-(nA * 1000000 + nB)) = -(nA * 1000000 + nB)) := hide' (by simp only [IntKind.wrap, IntKind.bits, IntKind.signed]; simp; omega)
  unfold NumEnd at HL4
  rw [hN1.out.1, hN1.out.2] at HL4
  go_enter Try.func34, Try.ntmps34
  go_wp2_with fail
  refine HL4.out.mono ?_
  rintro e w5 ⟨rfl, hc5, hg5⟩
  have HL5 := hide' (reader_num_any xs g a cap p2 q w5 hc5)
  unfold NumEnd at HL5
  rw [hN2.out.1, hN2.out.2] at HL5
  clear HL4
  go_wp2_with fail
  refine HL5.out.mono ?_
  rintro e w6 ⟨rfl, hc6, hg6⟩
  have HL6 := hide' (reader_num_any xs g a cap p3 q w6 hc6)
  unfold NumEnd at HL6
  rw [hN3.out.1, hN3.out.2] at HL6
  clear HL5
  go_wp2_with fail
  refine HL6.out.mono ?_
  rintro e w7 ⟨rfl, hc7, hg7⟩
  have HE := hide' (And.intro hc7 (grownBy_trans (grownBy_trans hg5 hg6) hg7))
  clear HL6 hc5 hc6 hc7 hg5 hg6 hg7
  by_cases h1 : ng = 1
  · subst h1
    go_wp2
    go_ret
    exact ⟨rfl, HE.out⟩
  · have h1' : (ng == 1) = false := by simp [h1]
    go_wp2
    go_ret
    exact ⟨rfl, HE.out⟩
end Go.Proofs.Ytmdmiiikbdnioaa
/-
  Readers of values: what stands while one is read, and at its end. No statement is proved here.
-/
namespace Go.Proofs.Ytmdmiiikbdnioaa
open Go.RowKit
set_option linter.unusedVariables false
set_option linter.unusedSimpArgs false

/-- Each value takes one off, and what went too far ends. -/
theorem rd_left (xs : List Int) : ∀ (dp : Nat) (at_ left : Int), 0 ≤ left → -1 ≤ (rdV xs dp at_ left).2.2 ∧ (rdV xs dp at_ left).2.2 ≤ left - 1 ∧ ((rdV xs dp at_ left).2.2 < 0 → (rdV xs dp at_ left).2.1 < 0)
  | 0, at_, left, h => by rw [rdV_zero]; simp only; omega
  | dp + 1, at_, left, h => by
    by_cases hl : left - 1 < 0
    · rw [rdV_many hl]; simp only; omega
    · have hK : ∀ (m : Bool) (n : Nat) (K : List (List Int)) (L : List (Vl (dp + 1))) (a l : Int), -1 ≤ l → (l < 0 → a < 0) → -1 ≤ (rdK (fun a l => rdV xs dp a l) xs m n K L a l).2.2.2 ∧ (rdK (fun a l => rdV xs dp a l) xs m n K L a l).2.2.2 ≤ l ∧ ((rdK (fun a l => rdV xs dp a l) xs m n K L a l).2.2.2 < 0 → (rdK (fun a l => rdV xs dp a l) xs m n K L a l).2.2.1 < 0) := by
        intro m n
        induction n with
        | zero => intro K L a l h1 h2; rw [rdK_zero]; exact ⟨h1, Int.le_refl _, h2⟩
        | succ n ih =>
          intro K L a l h1 h2
          by_cases ha : a < 0
          · rw [rdK_end _ _ _ _ _ _ _ _ ha]; exact ⟨h1, Int.le_refl _, h2⟩
          · rw [rdK_step _ _ _ _ _ _ _ _ ha]
            have h3 := rd_left xs dp (if m then (getText xs a).2 else a) l (by omega)
            have h4 := ih (if m then K ++ [(getText xs a).1] else K) (L ++ [(rdV xs dp (if m then (getText xs a).2 else a) l).1]) _ _ h3.1 h3.2.2
            exact ⟨h4.1, by omega, h4.2.2⟩
      by_cases k1 : (getNum xs at_).1 = 1
      · rw [rdV_bool hl k1]; simp only; omega
      · by_cases k2 : (getNum xs at_).1 = 2
        · rw [rdV_int hl k2]; simp only; omega
        · by_cases k3 : (getNum xs at_).1 = 3
          · rw [rdV_text hl k3]; simp only; omega
          · by_cases k45 : (getNum xs at_).1 = 4 ∨ (getNum xs at_).1 = 5
            · rw [rdV_kids hl k45]
              have := hK (decide ((getNum xs at_).1 = 5)) (getNum xs (getNum xs at_).2).1.toNat [] [] (getNum xs (getNum xs at_).2).2 (left - 1) (by omega) (by omega)
              simp only [kidsOf]
              exact ⟨this.1, this.2.1, this.2.2⟩
            · rw [rdV_leaf hl k1 k2 k3 (by omega) (by omega)]; simp only; omega

/-- What a text's reading leaves, the text being the call's own. -/
def TokEnd (T : TypeId) (xs : List Int) (g : Nat) (a : Option Addr) (cap : Nat) (p q : Int) (w : World) (e : Ending) (w' : World) : Prop :=
  ∃ ua un uc, e = .returned (.slice ua un uc) ∧ (∃ B, TOwn w' (.slice ua un uc) (getText xs p).1 B ∧ (∀ b ∈ B, w.heap.size ≤ b ∧ b < w'.heap.size) ∧ B.Nodup) ∧ RdC T xs w' g a cap (getText xs p).2 q ∧ w.grownBy w' (some g)
theorem TxtEnd.tok {T : TypeId} {xs : List Int} {g : Nat} {a : Option Addr} {cap : Nat} {p q : Int} {w w' : World} {e : Ending} (h : TxtEnd T xs g a cap p q w e w') : TokEnd T xs g a cap p q w e w' := by
  obtain ⟨v, rfl, hB, hc, hg⟩ := h
  obtain ⟨av, cv, rfl, _⟩ := hB.shape
  exact ⟨_, _, _, rfl, tOwn_of hB, hc, hg⟩

section
variable {T : TypeId} {xs : List Int} {w wf : World} {g : Nat} {a : Option Addr} {cap : Nat} {p q : Int} {d : Nat} {v : Vl d}

/-- The answer, laid into its box. -/
theorem rd_end {uk un : Int} {s2 : Option Addr} {n2 r2 : Nat} {s3 : Option Addr} {n3 r3 : Nat} {s4 : Option Addr} {n4 r4 : Nat} (hc : RdC T xs wf g a cap p q) (hg : w.grownBy wf (some g)) (hgl : g < w.heap.size) (hR : w.heap.size < wf.heap.size)
    (hv : ∃ Bs, VOwn wf d (.int .i64 uk, .int .i64 un, .slice s2 n2 r2, .slice s3 n3 r3, .slice s4 n4 r4) v Bs ∧ ∀ b ∈ Bs, w.heap.size < b ∧ b < wf.heap.size) :
    RdEnd T xs g a cap w d v p q (.returned (.agg #[.int .i64 uk, .int .i64 un, .slice s2 n2 r2, .slice s3 n3 r3, .slice s4 n4 r4])) (set5 wf w.heap.size 0 (.int .i64 uk) (.int .i64 un) (.slice s2 n2 r2) (.slice s3 n3 r3) (.slice s4 n4 r4)) := by
  have h5 := set5_grown wf w.heap.size 0 (.int .i64 uk) (.int .i64 un) (.slice s2 n2 r2) (.slice s3 n3 r3) (.slice s4 n4 r4)
  have hz5 := set5_size wf w.heap.size 0 (.int .i64 uk) (.int .i64 un) (.slice s2 n2 r2) (.slice s3 n3 r3) (.slice s4 n4 r4)
  obtain ⟨Bs, hv, hB⟩ := hv
  refine ⟨_, _, _, _, _, _, _, _, _, _, _, rfl, ⟨Bs, VOwn.agree d hv fun b hb => h5.block b (hB b hb).2 (by have := (hB b hb).1; simp; omega), fun b hb => by have := hB b hb; omega⟩, hc.keep fun b hb => h5.block b (by omega) (by simp; omega), ?_⟩
  exact ⟨h5.os.trans hg.os, h5.tape.trans hg.tape, h5.output.trans hg.output, by omega, fun b hb hne => (h5.block b (by omega) (by simp; omega)).trans (hg.block b hb hne)⟩

theorem grown_new {B : Nat} (h : w.grownBy wf (some g)) (hB : w.heap.size ≤ B) (j : Nat) (x : Value) : w.grownBy (wf.setCell ⟨B, j, none⟩ x) (some g) := by
  have h2 := grown1 wf B j x
  have hz := h.size
  exact ⟨h2.os.trans h.os, h2.tape.trans h.tape, h2.output.trans h.output, Nat.le_trans h.size h2.size, fun b hb hne => (h2.block b (by omega) (by simp; omega)).trans (h.block b hb hne)⟩
theorem leaf_own (wf : World) (d : Nat) (uk un : Int) : VOwn wf (d + 1) (.int .i64 uk, .int .i64 un, .slice none 0 0, .slice none 0 0, .slice none 0 0) (uk, un, [], [], []) [] :=
  (VOwn_succ _ _ _ _ _).2 ⟨rfl, rfl, [], [], [], ⟨⟨by simp, rfl, .inl ⟨rfl, rfl⟩⟩, .inl ⟨rfl, rfl⟩⟩, .inl ⟨rfl, rfl, rfl⟩, .inl ⟨rfl, rfl, rfl⟩, rfl, by simp⟩
theorem text_own {wf : World} (d : Nat) {u : Value} {t : List Int} {B : List Nat} (h : TOwn wf u t B) (hn : B.Nodup) (uk : Int) : VOwn wf (d + 1) (.int .i64 uk, .int .i64 0, u, .slice none 0 0, .slice none 0 0) (uk, 0, t, [], []) B :=
  (VOwn_succ _ _ _ _ _).2 ⟨rfl, rfl, B, [], [], h, .inl ⟨rfl, rfl, rfl⟩, .inl ⟨rfl, rfl, rfl⟩, by simp, hn⟩
end
section
variable {α : Type}
/-- How many rounds are left. -/
theorem rdK_more (f : Int → Int → α × Int × Int) (xs : List Int) (m : Bool) (N k : Nat) (K : List (List Int)) (L : List α) (p q : Int) (hk : k < N) (hp : ¬ p < 0) : rdK f xs m (N - k) K L p q =
    rdK f xs m (N - (k + 1)) (if m then K ++ [(getText xs p).1] else K) (L ++ [(f (if m then (getText xs p).2 else p) q).1]) (f (if m then (getText xs p).2 else p) q).2.1 (f (if m then (getText xs p).2 else p) q).2.2 := by
  rw [show N - k = (N - (k + 1)) + 1 by omega, rdK_step _ _ _ _ _ _ _ _ hp]
end

theorem rd_from {T : TypeId} {xs : List Int} {g : Nat} {a : Option Addr} {cap : Nat} {w wy w' : World} {d : Nat} {v : Vl d} {p q : Int} {e : Ending} (h : RdEnd T xs g a cap wy d v p q e w') (e0 : wy.heap = w.heap) (e1 : wy.os = w.os) (e2 : wy.tape = w.tape) (e3 : wy.output = w.output) : RdEnd T xs g a cap w d v p q e w' := by
  obtain ⟨uk, un, s2, n2, r2, s3, n3, r3, s4, n4, r4, he, ⟨B, ho, hb⟩, hc, hg⟩ := h
  refine ⟨uk, un, s2, n2, r2, s3, n3, r3, s4, n4, r4, he, ⟨B, ho, by rw [← e0]; exact hb⟩, hc, ⟨hg.os.trans e1, hg.tape.trans e2, hg.output.trans e3, by rw [← e0]; exact hg.size, fun b hb' hne => by rw [← e0]; exact hg.block b (by rw [e0]; exact hb') hne⟩⟩
theorem tok_from {T : TypeId} {xs : List Int} {g : Nat} {a : Option Addr} {cap : Nat} {w wy w' : World} {p q : Int} {e : Ending} (h : TokEnd T xs g a cap p q wy e w') (e0 : wy.heap = w.heap) (e1 : wy.os = w.os) (e2 : wy.tape = w.tape) (e3 : wy.output = w.output) : TokEnd T xs g a cap p q w e w' := by
  obtain ⟨ua, un, uc, he, ⟨B, ho, hb, hn⟩, hc, hg⟩ := h
  refine ⟨ua, un, uc, he, ⟨B, ho, by rw [← e0]; exact hb, hn⟩, hc, ⟨hg.os.trans e1, hg.tape.trans e2, hg.output.trans e3, by rw [← e0]; exact hg.size, fun b hb' hne => by rw [← e0]; exact hg.block b (by rw [e0]; exact hb') hne⟩⟩
end Go.Proofs.Ytmdmiiikbdnioaa
