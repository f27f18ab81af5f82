/-
  Texts that a law leans on, one behind the other; no statement is proved here.
-/
import Derived.Test.YthgcljefmkiepaaPk8
import Derived.Test.YthgcljefmkiepaaPk0
import Derived.Maps.OwnSet
import Derived.Deep.RegionWith
import Derived.Test.YthgcljefmkiepaaPk7
/-
  ValBytes of the program: putPart of a part without parts.
-/
namespace Go.Proofs.Ythgcljefmkiepaa
open Go.RowKit Go.Shelf
set_option linter.unusedVariables false
set_option linter.unusedSimpArgs false

/-- What putPart has left. -/
def PPEnd (w : World) (ys : List Int) (e : Ending) (w' : World) : Prop := ∃ u, e = .returned u ∧ Bts w' w.heap.size u ys ∧ Below w.heap.size w w'

set_option maxHeartbeats 1000000 in
set_option maxRecDepth 100000 in
theorem putPart_nullPart (a : Option Addr) (cap : Nat) (xs : List Int) (w : World) (hs : Seg w a xs) (ka : a = none → cap = 0) (hl : xs.length ≤ 1000000) :
    Calls Try.prog 22 #[.slice a xs.length cap, .iface 80 (.agg #[])] w (PPEnd w (putNum xs 0)) := by
  have m1 := meth_nullPart (.agg #[])
  have t1 := nobool_nullPart (.agg #[])
  have t2 := noint_nullPart (.agg #[])
  have t3 := notext_nullPart (.agg #[])
  have t4 := nolist_nullPart (.agg #[])
  have t5 := nomap_nullPart (.agg #[])
  have HK := hide' (kind_nullPart)
  have H1 : Hid (∀ wx, Below w.heap.size w wx → Calls Try.prog 31 #[.slice a xs.length cap, .int .i64 0] wx (PEnd wx (putNum xs 0))) := fun wx hb => impl_PutNum_end a cap xs 0 wx (hs.grow hb) ka (by omega)
  have hpl := putNum_len xs 0
  clear hs
  go_enter Try.func22, Try.ntmps22
  go_wp2_with fail
  refine (HK.out _).mono ?_
  rintro e w1 ⟨rfl, b1⟩
  have B1 := b1
  clear b1
  go_wp2_with fail
  refine (H1.out _ B1).mono ?_
  rintro e w2 ⟨a1, c1, rfl, hB1, b2, k1⟩
  have B2 := Below.on B1 b2
  have HB1 := hide' (hB1.mono (base' := w.heap.size) B1.size)
  generalize (putNum xs 0).length = n1 at *
  clear b2 hB1 HK m1
  go_wp2
  go_ret
  exact ⟨_, rfl, HB1.out, B2⟩

set_option maxHeartbeats 1000000 in
set_option maxRecDepth 100000 in
theorem putPart_unknownPart (a : Option Addr) (cap : Nat) (xs : List Int) (w : World) (hs : Seg w a xs) (ka : a = none → cap = 0) (hl : xs.length ≤ 1000000) :
    Calls Try.prog 22 #[.slice a xs.length cap, .iface 81 (.agg #[])] w (PPEnd w (putNum xs 6)) := by
  have m1 := meth_unknownPart (.agg #[])
  have t1 := nobool_unknownPart (.agg #[])
  have t2 := noint_unknownPart (.agg #[])
  have t3 := notext_unknownPart (.agg #[])
  have t4 := nolist_unknownPart (.agg #[])
  have t5 := nomap_unknownPart (.agg #[])
  have HK := hide' (kind_unknownPart)
  have H1 : Hid (∀ wx, Below w.heap.size w wx → Calls Try.prog 31 #[.slice a xs.length cap, .int .i64 6] wx (PEnd wx (putNum xs 6))) := fun wx hb => impl_PutNum_end a cap xs 6 wx (hs.grow hb) ka (by omega)
  have hpl := putNum_len xs 6
  clear hs
  go_enter Try.func22, Try.ntmps22
  go_wp2_with fail
  refine (HK.out _).mono ?_
  rintro e w1 ⟨rfl, b1⟩
  have B1 := b1
  clear b1
  go_wp2_with fail
  refine (H1.out _ B1).mono ?_
  rintro e w2 ⟨a1, c1, rfl, hB1, b2, k1⟩
  have B2 := Below.on B1 b2
  have HB1 := hide' (hB1.mono (base' := w.heap.size) B1.size)
  generalize (putNum xs 6).length = n1 at *
  clear b2 hB1 HK m1
  go_wp2
  go_ret
  exact ⟨_, rfl, HB1.out, B2⟩

set_option maxHeartbeats 1000000 in
set_option maxRecDepth 100000 in
theorem putPart_boolPart (vn : Int) (a : Option Addr) (cap : Nat) (xs : List Int) (w : World) (hs : Seg w a xs) (ka : a = none → cap = 0) (hl : xs.length ≤ 1000000) :
    Calls Try.prog 22 #[.slice a xs.length cap, .iface 63 (.agg #[.int .i64 vn])] w (PPEnd w (putNum (putNum xs 1) vn)) := by
  have m1 := meth_boolPart (.agg #[.int .i64 vn])
  have t1 := is_boolPart (.agg #[.int .i64 vn])
  have HK := hide' (kind_boolPart vn)
  have H1 : Hid (∀ wx, Below w.heap.size w wx → Calls Try.prog 31 #[.slice a xs.length cap, .int .i64 1] wx (PEnd wx (putNum xs 1))) := fun wx hb => impl_PutNum_end a cap xs 1 wx (hs.grow hb) ka (by omega)
  have hpl := putNum_len xs 1
  clear hs
  go_enter Try.func22, Try.ntmps22
  go_wp2_with fail
  refine (HK.out _).mono ?_
  rintro e w1 ⟨rfl, b1⟩
  have B1 := b1
  clear b1
  go_wp2_with fail
  refine (H1.out _ B1).mono ?_
  rintro e w2 ⟨a1, c1, rfl, hB1, b2, k1⟩
  have B2 := Below.on B1 b2
  have H2 : Hid (∀ o : Obj, Calls Try.prog 31 #[.slice a1 (putNum xs 1).length c1, .int .i64 vn] (w2.alloc o) (PEnd (w2.alloc o) (putNum (putNum xs 1) vn))) := fun o => impl_PutNum_end a1 c1 (putNum xs 1) vn (w2.alloc o) (hB1.seg.grow ((Below.refl _ _).alloc (Nat.le_refl _) o)) k1 (by omega)
  have HA : Hid (∀ o : Obj, Below w.heap.size w (w2.alloc o)) := fun o => Below.on B2 ((Below.refl _ _).alloc (Nat.le_refl _) o)
  generalize putNum xs 1 = z1 at *
  generalize z1.length = n1 at *
  clear b2 hB1 HK m1
  go_wp2_with fail
  refine (H2.out _).mono ?_
  rintro e w3 ⟨a3, c3, rfl, hB3, b3, k3⟩
  have B3 := Below.on (HA.out _) b3
  have HB3 := hide' (hB3.mono (base' := w.heap.size) (HA.out _).size)
  generalize (putNum z1 vn).length = n3 at *
  clear b3 hB3 H2
  go_wp2
  go_ret
  exact ⟨_, rfl, HB3.out, B3⟩

set_option maxHeartbeats 1000000 in
set_option maxRecDepth 100000 in
theorem putPart_intPart (vn : Int) (a : Option Addr) (cap : Nat) (xs : List Int) (w : World) (hs : Seg w a xs) (ka : a = none → cap = 0) (hl : xs.length ≤ 1000000) (hlo : -1000000000000 ≤ vn) (hhi : vn ≤ 1000000000000) :
    Calls Try.prog 22 #[.slice a xs.length cap, .iface 64 (.agg #[.int .i64 vn])] w (PPEnd w (putI (putNum xs 2) vn)) := by
  have m1 := meth_intPart (.agg #[.int .i64 vn])
  have t1 := nobool_intPart (.agg #[.int .i64 vn])
  have t2 := is_intPart (.agg #[.int .i64 vn])
  have HK := hide' (kind_intPart vn)
  have H1 : Hid (∀ wx, Below w.heap.size w wx → Calls Try.prog 31 #[.slice a xs.length cap, .int .i64 2] wx (PEnd wx (putNum xs 2))) := fun wx hb => impl_PutNum_end a cap xs 2 wx (hs.grow hb) ka (by omega)
  have hpl := putNum_len xs 2
  clear hs
  go_enter Try.func22, Try.ntmps22
  go_wp2_with fail
  refine (HK.out _).mono ?_
  rintro e w1 ⟨rfl, b1⟩
  have B1 := b1
  clear b1
  go_wp2_with fail
  refine (H1.out _ B1).mono ?_
  rintro e w2 ⟨a1, c1, rfl, hB1, b2, k1⟩
  have B2 := Below.on B1 b2
  have H2 : Hid (∀ o : Obj, Calls Try.prog 32 #[.slice a1 (putNum xs 2).length c1, .int .i64 vn] (w2.alloc o) (PEnd (w2.alloc o) (putI (putNum xs 2) vn))) := fun o => putInt_any a1 c1 (putNum xs 2) vn (w2.alloc o) (hB1.seg.grow ((Below.refl _ _).alloc (Nat.le_refl _) o)) k1 (by omega) hlo hhi
  have HA : Hid (∀ o : Obj, Below w.heap.size w (w2.alloc o)) := fun o => Below.on B2 ((Below.refl _ _).alloc (Nat.le_refl _) o)
  generalize putNum xs 2 = z1 at *
  generalize z1.length = n1 at *
  clear b2 hB1 HK m1
  go_wp2_with fail
  refine (H2.out _).mono ?_
  rintro e w3 ⟨a3, c3, rfl, hB3, b3, k3⟩
  have B3 := Below.on (HA.out _) b3
  have HB3 := hide' (hB3.mono (base' := w.heap.size) (HA.out _).size)
  generalize (putI z1 vn).length = n3 at *
  clear b3 hB3 H2
  go_wp2
  go_ret
  exact ⟨_, rfl, HB3.out, B3⟩

end Go.Proofs.Ythgcljefmkiepaa
/-
  A text that is read: its bytes, and that nil has no room.
-/
namespace Go.Proofs.Ythgcljefmkiepaa
open Go.RowKit
set_option linter.unusedVariables false

theorem TSeg.out {R : Nat → Prop} {w : World} {a : Option Addr} {n c : Nat} {xs : List Int} (h : TSeg R w (.slice a n c) xs) : Seg w a xs ∧ (a = none → c = 0) := by
  obtain ⟨a', c', h1, h2, h3, h4, h5, _⟩ := h
  simp only [Value.slice.injEq] at h1
  obtain ⟨rfl, _, rfl⟩ := h1
  exact ⟨h2, h5⟩
end Go.Proofs.Ythgcljefmkiepaa
/-
  ValBytes of the program: putPart of a text.
-/
namespace Go.Proofs.Ythgcljefmkiepaa
open Go.RowKit Go.Shelf
set_option linter.unusedVariables false
set_option linter.unusedSimpArgs false

set_option maxHeartbeats 1000000 in
set_option maxRecDepth 100000 in
theorem putPart_textPart (sx : ByteArray) (xt : List Int) (a : Option Addr) (cap : Nat) (xs : List Int) (w : World) (hs : Seg w a xs) (ka : a = none → cap = 0) (hl : xs.length ≤ 1000000) (hx : ∀ x ∈ xt, Byt x) (hsx : strOf xt = sx) (hlt : xt.length ≤ 1000) :
    Calls Try.prog 22 #[.slice a xs.length cap, .iface 66 (.agg #[.string sx])] w (PPEnd w (putText (putNum xs 3) xt)) := by
  have m1 := meth_textPart (.agg #[.string sx])
  have t1 := nobool_textPart (.agg #[.string sx])
  have t2 := noint_textPart (.agg #[.string sx])
  have t3 := is_textPart (.agg #[.string sx])
  have HK := hide' (kind_textPart sx)
  have H1 : Hid (∀ wx, Below w.heap.size w wx → Calls Try.prog 31 #[.slice a xs.length cap, .int .i64 3] wx (PEnd wx (putNum xs 3))) := fun wx hb => impl_PutNum_end a cap xs 3 wx (hs.grow hb) ka (by omega)
  have hpl := putNum_len xs 3
  clear hs
  go_enter Try.func22, Try.ntmps22
  go_wp2_with fail
  refine (HK.out _).mono ?_
  rintro e w1 ⟨rfl, b1⟩
  have B1 := b1
  clear b1
  go_wp2_with fail
  refine (H1.out _ B1).mono ?_
  rintro e w2 ⟨a1, c1, rfl, hB1, b2, k1⟩
  have B2 := Below.on B1 b2
  obtain ⟨ck, wB, hconv, hTo, hBb, hzB⟩ := conv_back xt hx (by omega) (w2.alloc (.cells #[.string (strOf xt)] 66))
  rw [hsx] at hconv hTo hBb hzB
  have hb5 : Below w2.heap.size w2 wB := Below.on ((Below.refl _ _).alloc (Nat.le_refl _) _) hBb
  have HT2 := hide' (impl_PutText_end a1 _ c1 ck (putNum xs 3) xt wB (hB1.seg.grow hb5) hTo.seg.out.1 k1 hTo.seg.out.2 (by omega) (by omega))
  have BB := Below.on B2 hb5
  have hhs : (w2.alloc (.cells #[.string sx] 66)).heap.size = w2.heap.size + 1 := by simp
  rw [hhs] at hconv HT2
  generalize putNum xs 3 = z1 at *
  generalize z1.length = n1 at *
  generalize hnt : xt.length = nt at *
  clear b2 hB1 HK m1 hTo hBb hb5 hhs hzB
  go_wp2_with fail
  refine HT2.out.mono ?_
  rintro e w3 ⟨a3, c3, rfl, hB3, b3, k3⟩
  have B3 := Below.on BB b3
  have HB3 := hide' (hB3.mono (base' := w.heap.size) BB.size)
  generalize (putText z1 xt).length = n3 at *
  clear b3 hB3 HT2
  go_wp2
  go_ret
  exact ⟨_, rfl, HB3.out, B3⟩
end Go.Proofs.Ythgcljefmkiepaa
/-
  ValBytes of the program: putPart of a list.
-/
namespace Go.Proofs.Ythgcljefmkiepaa
open Go.RowKit Go.Shelf
set_option linter.unusedVariables false
set_option linter.unusedSimpArgs false

/-- The contract of putPart at depth d. -/
def PByAt (d : Nat) : Prop := ∀ (N : Nat) (a : Option Addr) (cap : Nat) (xs : List Int) (p : Value) (v : Vl d) (deep : Nat) (w : World), PSeg (fun b => b < N) w d p v → N ≤ w.heap.size → Seg w a xs → (a = none → cap = 0) → goodB d v deep = true → partsV d v ≤ 40 → xs.length + 60 * partsV d v ≤ 1000000 →
  Calls Try.prog 22 #[.slice a xs.length cap, p] w (PPEnd w (bytV d v xs))

theorem row1 {w : World} {b : Nat} {c : Value} {t : TypeId} (h : w.heap[b]? = some (.cells #[c] t (0, 0))) : w.cell? ⟨b, 0, none⟩ = some c := by
  rw [cell_of_row w b 0 _ _ _ h]
  rfl

set_option maxHeartbeats 2000000 in
set_option maxRecDepth 100000 in
theorem putPart_list (d : Nat) (ih : PByAt d) (N : Nat) (a : Option Addr) (cap : Nat) (xs : List Int) (vK : List (List Int)) (vL : List (Vl d)) (la : Option Addr) (lc : Nat) (deep : Nat) (w : World) (hN : N ≤ w.heap.size) (hs : Seg w a xs) (ka : a = none → cap = 0)
    (hL : PLSeg (fun b => b < N) w d (.slice la vL.length lc) vL) (hg : ∀ j (h : j < vL.length), goodB d vL[j] deep = true) (hp : 1 + pre (partsV d) vL vL.length ≤ 40) (hn : vL.length ≤ 1000) (hlen : xs.length + 60 * (1 + pre (partsV d) vL vL.length) ≤ 1000000) :
    Calls Try.prog 22 #[.slice a xs.length cap, .iface 69 (.agg #[.slice la vL.length lc])] w (PPEnd w (kidB (fun x b => bytV d x b) false vK vL (putNum (putNum xs 4) vL.length) vL.length)) := by
  have m1 := meth_listPart (.agg #[.slice la vL.length lc])
  have t1 := nobool_listPart (.agg #[.slice la vL.length lc])
  have t2 := noint_listPart (.agg #[.slice la vL.length lc])
  have t3 := notext_listPart (.agg #[.slice la vL.length lc])
  have t4 := is_listPart (.agg #[.slice la vL.length lc])
  have HK := hide' (kind_listPart la vL.length lc)
  have HI := hide' ih
  have HG := hide' hg
  have HL := hide' hL
  have H1 : Hid (∀ wx, Below w.heap.size w wx → Calls Try.prog 31 #[.slice a xs.length cap, .int .i64 4] wx (PEnd wx (putNum xs 4))) := fun wx hb => impl_PutNum_end a cap xs 4 wx (hs.grow hb) ka (by omega)
  have hpl := putNum_len xs 4
  have hpl2 := putNum_len (putNum xs 4) vL.length
  obtain ⟨B0, hB0⟩ : ∃ B0, B0 = putNum (putNum xs 4) vL.length := ⟨_, rfl⟩
  rw [← hB0] at hpl2
  rw [← hB0]
  have HRoom : Hid (∀ k (h : k < vL.length), (kidB (fun x b => bytV d x b) false vK vL B0 k).length + 25 + 60 * partsV d vL[k] ≤ 1000000) := fun k h => kid_room d false vK vL B0 1000000 (by omega) k h
  have HPk : Hid (∀ k (h : k < vL.length), partsV d vL[k] ≤ 40) := fun k h => by
    have h3 := pre_succ (partsV d) vL k h
    have h4 := pre_le (partsV d) vL (k + 1)
    have h5 := pre_all (partsV d) vL
    omega
  have HSt : Hid (∀ k (h : k < vL.length), kidB (fun x b => bytV d x b) false vK vL B0 (k + 1) = bytV d vL[k] (kidB (fun x b => bytV d x b) false vK vL B0 k)) := fun k h => kid_list d vK vL B0 k h
  have HZ : Hid (kidB (fun x b => bytV d x b) false vK vL B0 0 = B0) := rfl
  generalize hkid : kidB (fun x b => bytV d x b) false vK vL B0 = kid at *
  have hP2 : Hid (∀ (a1 : Option Addr) (c1 : Nat) (wx : World), Seg wx a1 (putNum xs 4) → (a1 = none → c1 = 0) → Calls Try.prog 31 #[.slice a1 (putNum xs 4).length c1, .int .i64 vL.length] wx (PEnd wx B0)) := fun a1 c1 wx hB k => by rw [hB0]; exact impl_PutNum_end a1 c1 _ _ wx hB k (by omega)
  obtain ⟨ob, HOb⟩ : ∃ ob, Hid (ob = Obj.cells #[.slice la vL.length lc] 69) := ⟨_, rfl⟩
  clear hs hL hg ih hlen hkid hB0 hp
  go_enter Try.func22, Try.ntmps22
  go_wp2_with fail
  refine (HK.out _).mono ?_
  rintro e w1 ⟨rfl, b1⟩
  have B1 := b1
  clear b1
  go_wp2_with fail
  refine (H1.out _ B1).mono ?_
  rintro e w2 ⟨a1, c1, rfl, hB1, b2, k1⟩
  have B2 := Below.on B1 b2
  have HA : Hid (∀ o : Obj, Below w.heap.size w (w2.alloc o)) := fun o => Below.on B2 ((Below.refl _ _).alloc (Nat.le_refl _) o)
  have H2 : Hid (∀ o : Obj, Calls Try.prog 31 #[.slice a1 (putNum xs 4).length c1, .int .i64 vL.length] (w2.alloc o) (PEnd (w2.alloc o) B0)) := fun o => hP2.out a1 c1 (w2.alloc o) (hB1.seg.grow ((Below.refl _ _).alloc (Nat.le_refl _) o)) k1
  generalize (putNum xs 4).length = n1 at *
  clear b2 hB1 HK m1 hP2
  go_wp2_with fail
  refine (H2.out _).mono ?_
  rintro e w3 ⟨a3, c3, rfl, hB3, b3, k3⟩
  have y0 := row1 (box_row b3)
  have B3 := Below.on (HA.out _) b3
  have HB3 : Hid (Bts w3 w.heap.size (.slice a3 B0.length c3) B0) := hB3.mono (HA.out _).size
  generalize hn0 : B0.length = n0 at *
  clear b3 hB3 H2 hn0 t1 t2 t3 t4
  go_wp2
  go_loopw [0, 52] (fun y i wr => ∃ k : Nat, k ≤ vL.length ∧ i = .int .i64 k ∧ Hid (Bts wr w.heap.size y (kid k)) ∧ Below w.heap.size w wr) (fun _ i _ => vL.length - (intOf i).toNat)
  case atStart => exact ⟨0, Nat.zero_le _, rfl, by rw [HZ.out]; exact HB3, B3⟩
  case round =>
    obtain ⟨k, hk, rfl, hB, B⟩ := hrel
    obtain ⟨ya, yc, rfl, _, _, _, _, kk⟩ := hB.out.shape
    have hz := B.size
    by_cases hlt : k < vL.length
    · have hlt' : (k : Int) < (vL.length : Int) := by omega
      have hroom := HRoom.out k hlt
      obtain ⟨b, off, t, px, rfl, hR, hc, hps⟩ := HL.out.at hlt
      have hcell := (cell_agree (agree_below (B.mono hN)) hR).trans hc
      have HC := hide' (HI.out N ya yc (kid k) (.iface t px) vL[k] deep wr (PSeg.carry (fun b h => h) (agree_below (B.mono hN)) d hps) (by omega) hB.out.seg kk (HG.out k hlt) (HPk.out k hlt) (by omega))
      rw [← HSt.out k hlt] at HC
      generalize (kid k).length = n2 at *
      clear hps hB hc
      go_wp2_with fail
      refine HC.out.mono ?_
      rintro e w4 ⟨u, rfl, hB4, b4⟩
      have B4 := Below.on B b4
      have HB4 : Hid (Bts w4 w.heap.size u (kid (k + 1))) := hB4.mono (by omega)
      obtain ⟨ya4, yc4, hu, _, _, _, _, _⟩ := hB4.shape
      generalize (kid (k + 1)).length = n3 at *
      subst hu
      clear b4 HC hB4 hcell
      go_wp2
      go_roundw
      case rel => exact ⟨k + 1, by omega, by go_num, HB4, B4⟩
      case measure => simp [intOf]; omega
    · have hkn : k = vL.length := by omega
      have hlt' : ¬ (k : Int) < (vL.length : Int) := by omega
      have HE : Hid (Bts wr w.heap.size (.slice ya (kid k).length yc) (kid vL.length)) := by rw [← hkn]; exact hB
      clear hkn hB
      generalize (kid k).length = n1' at *
      go_wp2
      go_ret
      exact ⟨_, rfl, HE.out, B⟩
end Go.Proofs.Ythgcljefmkiepaa
/-
  ValBytes of the program: putPart of a map.
-/
namespace Go.Proofs.Ythgcljefmkiepaa
open Go.RowKit Go.Shelf
set_option linter.unusedVariables false
set_option linter.unusedSimpArgs false

set_option maxHeartbeats 3000000 in
set_option maxRecDepth 100000 in
theorem putPart_map (d : Nat) (ih : PByAt d) (N : Nat) (a : Option Addr) (cap : Nat) (xs : List Int) (vK : List (List Int)) (vL : List (Vl d)) (b : Nat) (ps : List Value) (deep : Nat) (w : World) (hN : N ≤ w.heap.size) (hs : Seg w a xs) (ka : a = none → cap = 0)
    (hm : w.ownsMap Try.prog 9 tokR b 64 (mapD vK ps vL.length)) (hps : ∀ i (h : i < vL.length), PSeg (fun b => b < N) w d (ps.getD i .nilIface) vL[i]) (hst : ∀ i, i < vL.length → stepB vK i = true) (hkb : ∀ i, i < vL.length → (∀ x ∈ vK.getD i [], Byt x) ∧ (vK.getD i []).length ≤ 8) (hg : ∀ j (h : j < vL.length), goodB d vL[j] deep = true) (hp : 1 + pre (partsV d) vL vL.length ≤ 40) (hn : vL.length ≤ 40) (hlen : xs.length + 60 * (1 + pre (partsV d) vL vL.length) ≤ 1000000) :
    Calls Try.prog 22 #[.slice a xs.length cap, .iface 72 (.agg #[.map (some b)])] w (PPEnd w (kidB (fun x b => bytV d x b) true vK vL (putNum (putNum xs 5) vL.length) vL.length)) := by
  have m1 := meth_mapPart (.agg #[.map (some b)])
  have t1 := nobool_mapPart (.agg #[.map (some b)])
  have t2 := noint_mapPart (.agg #[.map (some b)])
  have t3 := notext_mapPart (.agg #[.map (some b)])
  have t4 := nolist_mapPart (.agg #[.map (some b)])
  have t5 := is_mapPart (.agg #[.map (some b)])
  have HK := hide' (kind_mapPart b)
  have HI := hide' ih
  have HG := hide' hg
  have HSh : Hid (∀ i, i < vL.length → ∃ t x, ps.getD i .nilIface = .iface t x) := fun i hi => (hps i hi).shape
  have HF : Hid (∀ wy, Below w.heap.size w wy → Calls Try.prog 34 #[.agg #[.map (some b)]] wy fun e w' => ∃ u, e = .returned u ∧ FRow w' u vK ps vL.length ∧ Below wy.heap.size wy w') := fun wy hy =>
    fields_any b vL.length vK ps wy (hm.kept (below_grows hy none) (by simp)) hst HSh.out hn
  have HLn : Hid (∀ wy ty, Below w.heap.size w wy → (Builtin.len_ #[70] ty #[.map (some b)]).run Try.prog wy = .ok (.int .i64 vL.length) wy) := fun wy ty hy => by
    have h := (hm.kept (w' := wy) (below_grows hy none) (by simp)).len Try.underlying70 ty
    rw [mapD_listU _ _ _ (step_up hst), size_ent] at h
    exact h
  have HP := hide' hps
  have HKB := hide' hkb
  have H1 : Hid (∀ wx, Below w.heap.size w wx → Calls Try.prog 31 #[.slice a xs.length cap, .int .i64 5] wx (PEnd wx (putNum xs 5))) := fun wx hb => impl_PutNum_end a cap xs 5 wx (hs.grow hb) ka (by omega)
  have hpl := putNum_len xs 5
  have hpl2 := putNum_len (putNum xs 5) vL.length
  obtain ⟨B0, hB0⟩ : ∃ B0, B0 = putNum (putNum xs 5) vL.length := ⟨_, rfl⟩
  rw [← hB0] at hpl2
  rw [← hB0]
  have HRoom : Hid (∀ k (h : k < vL.length), (kidB (fun x b => bytV d x b) true vK vL B0 k).length + 25 + 60 * partsV d vL[k] ≤ 1000000) := fun k h => kid_room d true vK vL B0 1000000 (by omega) k h
  have HPk : Hid (∀ k (h : k < vL.length), partsV d vL[k] ≤ 40) := fun k h => by
    have h3 := pre_succ (partsV d) vL k h
    have h4 := pre_le (partsV d) vL (k + 1)
    have h5 := pre_all (partsV d) vL
    omega
  have HSt : Hid (∀ k (h : k < vL.length), kidB (fun x b => bytV d x b) true vK vL B0 (k + 1) = bytV d vL[k] (putText (kidB (fun x b => bytV d x b) true vK vL B0 k) (vK.getD k []))) := fun k h => kid_map d vK vL B0 k h
  have HZ : Hid (kidB (fun x b => bytV d x b) true vK vL B0 0 = B0) := rfl
  generalize hkid : kidB (fun x b => bytV d x b) true vK vL B0 = kid at *
  have hP2 : Hid (∀ (a1 : Option Addr) (c1 : Nat) (wx : World), Seg wx a1 (putNum xs 5) → (a1 = none → c1 = 0) → Calls Try.prog 31 #[.slice a1 (putNum xs 5).length c1, .int .i64 vL.length] wx (PEnd wx B0)) := fun a1 c1 wx hB k => by rw [hB0]; exact impl_PutNum_end a1 c1 _ _ wx hB k (by omega)
  clear hs hps hg ih hlen hkid hB0 hp hm hst hkb
  go_enter Try.func22, Try.ntmps22
  go_wp2_with fail
  refine (HK.out _).mono ?_
  rintro e w1 ⟨rfl, b1⟩
  have B1 := b1
  clear b1
  go_wp2_with fail
  refine (H1.out _ B1).mono ?_
  rintro e w2 ⟨a1, c1, rfl, hB1, b2, k1⟩
  have B2 := Below.on B1 b2
  have HA : Hid (∀ o : Obj, Below w.heap.size w (w2.alloc o)) := fun o => Below.on B2 ((Below.refl _ _).alloc (Nat.le_refl _) o)
  have hln : ∀ o ty, (Builtin.len_ #[70] ty #[.map (some b)]).run Try.prog (w2.alloc o) = .ok (.int .i64 vL.length) (w2.alloc o) := fun o ty => HLn.out _ ty (HA.out o)
  have H2 : Hid (∀ o : Obj, Calls Try.prog 31 #[.slice a1 (putNum xs 5).length c1, .int .i64 vL.length] (w2.alloc o) (PEnd (w2.alloc o) B0)) := fun o => hP2.out a1 c1 (w2.alloc o) (hB1.seg.grow ((Below.refl _ _).alloc (Nat.le_refl _) o)) k1
  generalize (putNum xs 5).length = n1 at *
  clear b2 hB1 HK m1 hP2
  go_wp2_with fail
  refine (H2.out _).mono ?_
  rintro e w3 ⟨a3, c3, rfl, hB3, b3, k3⟩
  have y0 := row1 (box_row b3)
  have B3 := Below.on (HA.out _) b3
  have HB3 : Hid (Bts w3 w.heap.size (.slice a3 B0.length c3) B0) := hB3.mono (HA.out _).size
  generalize hn0 : B0.length = n0 at *
  clear b3 hB3 H2 hn0 t1 t2 t3 t4 t5 hln
  go_wp2_with fail
  refine (HF.out _ B3).mono ?_
  rintro e w4 ⟨u, rfl, hFR, b4⟩
  have B4 := Below.on B3 b4
  have HB4 : Hid (Bts w4 w.heap.size (.slice a3 n0 c3) B0) := HB3.out.kept (below_grows b4 none) (by cases hv : (Value.slice a3 n0 c3).ownBlock <;> simp)
  obtain ⟨fa, fc, rfl, hfc, hfm, hcell⟩ := hFR
  have HC := hide' hcell
  unfold maxLen at hfm
  clear hcell b4 HF HB3 y0
  go_wp2_with fail
  go_loopw [0, 71] (fun y i wr => ∃ k : Nat, k ≤ vL.length ∧ i = .int .i64 k ∧ Hid (Bts wr w.heap.size y (kid k)) ∧ Hid (Below w4.heap.size w4 wr)) (fun _ i _ => vL.length - (intOf i).toNat)
  case atStart => exact ⟨0, Nat.zero_le _, rfl, by rw [HZ.out]; exact HB4, Below.refl _ _⟩
  case round =>
    obtain ⟨k, hk, rfl, hB, hbel⟩ := hrel
    have B := Below.on B4 hbel.out
    obtain ⟨ya, yc, rfl, _, _, _, _, kk⟩ := hB.out.shape
    have hz := B.size
    by_cases hlt : k < vL.length
    · have hlt' : (k : Int) < (vL.length : Int) := by omega
      have hk0 : (0 : Int) ≤ (k : Int) := Int.natCast_nonneg _
      have hroom := HRoom.out k hlt
      obtain ⟨t, px, hpe⟩ := HSh.out k hlt
      have hat : ∃ g, fa = some ⟨g, 0, none⟩ ∧ wr.cell? ⟨g, k * 2, none⟩ = some (.string (strOf (vK.getD k []))) ∧ wr.cell? ⟨g, k * 2 + 1, none⟩ = some (.iface t px) := by
        rcases HC.out with h0 | ⟨g, rfl, hg, hc⟩
        · omega
        · obtain ⟨c0, c1⟩ := hc k hlt
          have hbk := hbel.out.block g hg
          rw [hpe] at c1
          exact ⟨g, rfl, (World.cell?_of_block hbk).trans c0, (World.cell?_of_block hbk).trans c1⟩
      obtain ⟨g, rfl, fc0, fc1⟩ := hat
      have hps := HP.out k hlt
      rw [hpe] at hps
      obtain ⟨ts, hts⟩ : ∃ ts, ts = vK.getD k [] := ⟨_, rfl⟩
      have hkb := HKB.out k hlt
      have HS1 := HSt.out k hlt
      rw [← hts] at hkb HS1 fc0
      have hptl := putText_len (kid k) ts
      -- the text, as bytes of the call's own, and behind it both calls
      have HCv : Hid (∀ o : Obj, ∃ ck wB, (convert 9 22 (.string (strOf ts))).run Try.prog (wr.alloc o).drew = .ok (.slice (some ⟨wr.heap.size + 1, 0, none⟩) ts.length ck) wB ∧ Below wr.heap.size wr wB ∧ wB.heap[wr.heap.size]? = some o ∧
          Calls Try.prog 33 #[.slice ya (kid k).length yc, .slice (some ⟨wr.heap.size + 1, 0, none⟩) ts.length ck] wB (PEnd wB (putText (kid k) ts))) := fun o => by
        obtain ⟨ck, wB, hconv, hTo, hBb, hzB⟩ := conv_back ts hkb.1 (by omega) (wr.alloc o).drew
        have hhs : (wr.alloc o).drew.heap.size = wr.heap.size + 1 := by simp
        rw [hhs] at hconv hTo
        have hb5 : Below wr.heap.size wr wB := Below.on ((Below.refl _ _).alloc (Nat.le_refl _) _).drew hBb
        exact ⟨ck, wB, hconv, hb5, (hBb.block wr.heap.size (by simp)).trans (MapKept.heap_alloc wr _).1, impl_PutText_end ya _ yc ck (kid k) ts wB (hB.out.seg.grow hb5) hTo.seg.out.1 kk hTo.seg.out.2 (by omega) (by omega)⟩
      have HI2 : Hid (∀ (ua : Option Addr) (uc : Nat) (wx : World), Below wr.heap.size wr wx → Seg wx ua (putText (kid k) ts) → (ua = none → uc = 0) → Calls Try.prog 22 #[.slice ua (putText (kid k) ts).length uc, .iface t px] wx (PPEnd wx (kid (k + 1)))) := fun ua uc wx hb hB' hk' => by
        rw [HS1]
        exact HI.out N ua uc _ (.iface t px) vL[k] deep wx (PSeg.carry (fun b h => h) (agree_below ((Below.on B hb).mono hN)) d hps) (by have := (Below.on B hb).size; omega) hB' hk' (HG.out k hlt) (HPk.out k hlt) (by omega)
      clear hps hB HS1 hkb hts hpe
      obtain ⟨sx, hsx⟩ : ∃ sx, sx = strOf ts := ⟨_, rfl⟩
      rw [← hsx] at HCv fc0
      obtain ⟨ck, wB, hconv, hb5, hbx, HT⟩ := HCv.out (.cells #[.string sx, .iface t px] 76)
      have qB0 : wB.cell? ⟨wr.heap.size, 0, none⟩ = some (.string sx) := by rw [cell_of_row wB _ 0 _ _ _ hbx]; rfl
      have qB1 : wB.cell? ⟨wr.heap.size, 1, none⟩ = some (.iface t px) := by rw [cell_of_row wB _ 1 _ _ _ hbx]; rfl
      have HQ : Hid (∀ wx, Below wB.heap.size wB wx → wx.cell? ⟨wr.heap.size, 0, none⟩ = some (.string sx) ∧ wx.cell? ⟨wr.heap.size, 1, none⟩ = some (.iface t px)) := fun wx hb => by
        have hh := (hb.block wr.heap.size ((Array.getElem?_eq_some_iff.1 hbx).1)).trans hbx
        refine ⟨?_, ?_⟩
        · rw [cell_of_row wx _ 0 _ _ _ hh]; rfl
        · rw [cell_of_row wx _ 1 _ _ _ hh]; rfl
      have HT' := hide' HT
      have Hb5 := hide' hb5
      generalize putText (kid k) ts = zz at *
      generalize (kid k).length = n2 at *
      generalize ts.length = n4 at *
      clear HT hb5 hbx hsx HCv HC H1 HLn
      go_wp2_with fail
      go_region_with (first
        | (go_at_call 33; refine HT'.out.mono ?_; rintro e w5 ⟨ua, uc, rfl, hB5, b5, k5⟩; obtain ⟨qC0, qC1⟩ := HQ.out w5 b5; have HC5 := hide' (HI2.out ua uc w5 (Below.on Hb5.out b5) hB5.seg k5); have Hb6 := hide' (Below.on Hb5.out b5); have Hb55 := hide' b5; generalize zz.length = n5 at *; clear b5 hB5)
        | (go_at_call 22; refine HC5.out.mono ?_; rintro e w6 ⟨u, rfl, hB6, b6⟩; obtain ⟨qD0, qD1⟩ := HQ.out w6 (Below.on Hb55.out b6); have HB6 := hide' hB6; obtain ⟨ya6, yc6, hu, _, _, _, _, _⟩ := hB6.shape; have Hb7 := hide' (Below.on Hb6.out b6); generalize (kid (k + 1)).length = n6 at *; subst hu; clear b6 hB6))
      all_goals
        have Hbw : Hid (Below w4.heap.size w4 w6) := Below.on hbel.out Hb7.out
        have HBk : Hid (Bts w6 w.heap.size (.slice ya6 n6 yc6) (kid (k + 1))) := HB6.out.mono (by have := Hb6.out.size; omega)
        clear qB0 qB1 qC0 qC1 qD0 qD1
        go_wp2
        go_roundw
        case rel => exact ⟨k + 1, by omega, by go_num, HBk, Hbw⟩
        case measure => simp [intOf]; omega
    · have hkn : k = vL.length := by omega
      have hlt' : ¬ (k : Int) < (vL.length : Int) := by omega
      have HE : Hid (Bts wr w.heap.size (.slice ya (kid k).length yc) (kid vL.length)) := by rw [← hkn]; exact hB
      clear hkn hB
      generalize (kid k).length = n1' at *
      go_wp2
      go_ret
      exact ⟨_, rfl, HE.out, B⟩
end Go.Proofs.Ythgcljefmkiepaa
/-
  mapWith of the program, walked: it makes a map of names and parts.
-/
namespace Go.Proofs.Ythgcljefmkiepaa
open Go.RowKit
set_option linter.unusedVariables false
set_option linter.unusedSimpArgs false

theorem keyS (xs : List Int) (h : xs.length ≤ maxLen) : Go.keyOf Try.prog 9 (.string (strOf xs)) = some (.string (u8s xs)) :=
  WideMaps.keyOf_string_mk Try.underlying9 (by show (xs.map _).toArray.size ≤ maxLen; rw [List.size_toArray, List.length_map]; exact h)

/-- What mapWith leaves: a new map with these entries. -/
def MapWEnd (vK : List (List Int)) (ps : List Value) (m : Nat) (w : World) (e : Ending) (w' : World) : Prop :=
  ∃ b, e = .returned (.agg #[.map (some b)]) ∧ w.heap.size ≤ b ∧ b < w'.heap.size ∧ w'.ownsMap Try.prog 9 tokR b m (mapD vK ps m) ∧ Below w.heap.size w w'

set_option maxHeartbeats 4000000 in
theorem mapWith_of (N : Nat) (z : Value) (vK : List (List Int)) (m : Nat) (a : Option Addr) (cap : Nat) (ps : List Value) (w : World) (hz : KSeg (fun b => b < N) w z vK) (hN : N ≤ w.heap.size) (hkl : vK.length = m) (hlen : m ≤ 40)
    (hcell : m = 0 ∨ ∃ b off, a = some ⟨b, off, none⟩ ∧ b < w.heap.size ∧ ∀ i, i < m → w.cell? ⟨b, off + i, none⟩ = some (ps.getD i .nilIface)) (hsh : ∀ i, i < m → ∃ pt px, ps.getD i .nilIface = .iface pt px) :
    Calls Try.prog 47 #[z, .slice a m cap] w (MapWEnd vK ps m w) := by
  have HZ := hide' hz
  have HC := hide' hcell
  have HSh := hide' hsh
  have HKL := hide' hkl
  obtain ⟨a3, p3, rfl, hlc3, hcm3, ka3, _⟩ := hz
  unfold maxLen at hcm3
  have hmk := run_makeMapN 70 9 47 (m : Int) (w.alloc (.cells #[.map none] 72)) Try.underlying70
  have hM0 : ((w.alloc (.cells #[.map none] 72)).alloc (.map #[] 0)).ownsMap Try.prog 9 tokR (w.heap.size + 1) 0 (mapD vK ps 0) := by
    have := World.ownsMap_made (w.alloc (.cells #[.map none] 72)) Try.prog 9 tokR
    rw [World.size_alloc] at this
    exact this
  rw [World.size_alloc] at hmk
  rw [hkl] at HZ
  rw [hkl] at hlc3
  rw [hkl]
  clear hcell hsh hkl
  go_enter Try.func47, Try.ntmps47
  go_wp2
  go_loopw [13] (fun i wr => ∃ k : Nat, k ≤ m ∧ i = .int .i64 k ∧ wr.ownsMap Try.prog 9 tokR (w.heap.size + 1) k (mapD vK ps k) ∧ Hid (((w.alloc (.cells #[.map none] 72)).alloc (.map #[] 0)).grownBy wr (some (w.heap.size + 1)))) (fun i _ => m - (intOf i).toNat)
  case atStart => exact ⟨0, Nat.zero_le _, rfl, hM0, World.grownBy.refl _ _⟩
  case round =>
    obtain ⟨k, hk, rfl, hown, hgr⟩ := hrel
    clear hM0 hmk
    have hal1 : w.grownBy (w.alloc (.cells #[.map none] 72)) none := World.grownBy_alloc w _ none
    have hal2 : (w.alloc (.cells #[.map none] 72)).grownBy ((w.alloc (.cells #[.map none] 72)).alloc (.map #[] 0)) none := World.grownBy_alloc _ _ none
    have hlow2 : ∀ b, b < w.heap.size + 1 → wr.heap[b]? = (w.alloc (.cells #[.map none] 72)).heap[b]? := fun b hb => (hgr.out.block b (by simp; omega) (by simp; omega)).trans (hal2.block b (by simp; omega) (by simp))
    have hlow : ∀ b, b < w.heap.size → wr.heap[b]? = w.heap[b]? := fun b hb => (hlow2 b (by omega)).trans (hal1.block b hb (by simp))
    by_cases hlt : k < m
    · have hlt' : (k : Int) < (m : Int) := by omega
      have hit : ∃ b off, a = some ⟨b, off, none⟩ ∧ wr.cell? ⟨b, off + k, none⟩ = some (ps.getD k .nilIface) := by
        rcases HC.out with h0 | ⟨b, off, rfl, hb, hcc⟩
        · omega
        · exact ⟨b, off, rfl, (World.cell?_of_block (hlow b hb)).trans (hcc k hlt)⟩
      obtain ⟨ib, io, rfl, hitem⟩ := hit
      have hag : Agree (fun b => b < N) w wr := fun b hb => hlow b (by omega)
      have hKr : KSeg (fun b => b < N) wr (.slice a3 m p3) vK := HZ.out.agree hag
      have hltK : k < vK.length := by have := HKL.out; omega
      obtain ⟨kb, ko, rfl, hat⟩ := hKr.at hltK
      obtain ⟨s2, e2, hu, g2, m2⟩ := hat k hltK
      have hcv := conv_seg e2 g2
      have hkey := keyS (vK.getD k []) m2
      have HD : Hid (mapD vK ps (k + 1) = (mapD vK ps k).put (.string (u8s (vK.getD k []))) (.held (ps.getD k .nilIface))) := rfl
      obtain ⟨pt, px, hpx⟩ := HSh.out k hlt
      rw [hpx] at hitem HD
      generalize vK.getD k [] = ys at *
      clear hlow hlow2 hag hKr hat g2 hal1 hal2 hpx
      go_wp2_with (at_mapUpdate; refine wpList_mapUpdate_own _ rfl _ _ _ 70 rfl 9 47 (Maps.string_keyed Try.underlying9) Try.underlying70 tokR (w.heap.size + 1) k _ rfl hown (by unfold maxLen; omega) _ _ _ rfl rfl hkey _ [] rfl ?_; intro w3 hown3 hg3)
      have hown4 : w3.ownsMap Try.prog 9 tokR (w.heap.size + 1) (k + 1) (mapD vK ps (k + 1)) := by rw [HD.out]; exact hown3
      have hgr3 : Hid (((w.alloc (.cells #[.map none] 72)).alloc (.map #[] 0)).grownBy w3 (some (w.heap.size + 1))) := grownBy_trans hgr.out hg3
      clear hown3 hg3 hown hgr hkey hcv hitem hu
      go_wp2
      go_roundw
      case rel => exact ⟨k + 1, by omega, by go_num, hown4, hgr3⟩
      case measure => simp [intOf]; omega
    · have hkn : k = m := by omega
      have hlt' : ¬ (k : Int) < (m : Int) := by omega
      obtain rfl := hkn
      have hsz3 : w.heap.size + 2 ≤ wr.heap.size := by have := hgr.out.size; simpa using this
      have hR : wr.heap[w.heap.size]? = some (.cells #[.map none] 72 (0, 0)) := (hlow2 w.heap.size (by omega)).trans (MapKept.heap_alloc w _).1
      have rc : wr.cell? ⟨w.heap.size, 0, none⟩ = some (.map none) := by rw [cell_of_row wr w.heap.size 0 _ _ _ hR]; rfl
      have rf : wr.frozen? ⟨w.heap.size, 0, none⟩ = false := frozen_of_row _ _ _ _ _ hR
      have hBw : Below w.heap.size w wr := ⟨hgr.out.os, hgr.out.tape, hgr.out.output, by omega, fun b hb => hlow b hb⟩
      have HR := hide' hR
      have HBw := hide' hBw
      clear hlow hlow2 hal1 hal2 hgr hR hBw
      go_wp2_with fail
      have hrow := heap_setCell_same wr w.heap.size 0 _ _ (.map (some (w.heap.size + 1))) HR.out
      have hc := cell_of_row _ _ 0 _ _ _ hrow
      have hg := grown1 wr w.heap.size 0 (.map (some (w.heap.size + 1)))
      refine bodyPost_ret (v := .agg #[.map (some (w.heap.size + 1))]) (by simp [results, Try.results47, go_sem, hc]) rfl ?_
      exact ⟨w.heap.size + 1, rfl, by omega, by simp [World.setCell]; omega, hown.kept hg (by simp), HBw.out.grown hg (by omega) (by intro j hj; simp at hj; omega)⟩
end Go.Proofs.Ythgcljefmkiepaa
/-
  takeMap of the program, walked: it takes a map in.
-/
namespace Go.Proofs.Ythgcljefmkiepaa
open Go.RowKit
set_option linter.unusedVariables false
set_option linter.unusedSimpArgs false

theorem below_grown {w w' : World} (h : Below w.heap.size w w') (r : Option Nat) : w.grownBy w' r := ⟨h.os, h.tape, h.output, h.size, fun k hk _ => h.block k hk⟩

/-- What a good takeMap has brought about. -/
def TookMap (d : Nat) (vK : List (List Int)) (vL : List (Vl d)) (deep n q : Nat) (w w' : World) (p : Value) : Prop :=
  vK.length = vL.length ∧ ascB vK = true ∧ (∀ j (h : j < vL.length), goodB d vL[j] (deep + 1) = true) ∧ n + pre (partsV d) vL vL.length ≤ 40 ∧ Cnt w' q (n + pre (partsV d) vL vL.length) ∧
    PSeg (fun b => w.heap.size ≤ b ∧ b < w'.heap.size) w' (d + 1) p (5, 0, [], vK, vL)

/-- It is no map that may be. -/
def NoMap (d : Nat) (vK : List (List Int)) (vL : List (Vl d)) (deep n : Nat) : Prop := ¬ (vK.length = vL.length ∧ ascB vK = true ∧ (∀ j (h : j < vL.length), goodB d vL[j] (deep + 1) = true) ∧ n + pre (partsV d) vL vL.length ≤ 40)

theorem agree_box {N q : Nat} {w w' : World} {o : Obj} (h : (w.alloc o).grownBy w' (some q)) (hN : N ≤ q) (hq : q < w.heap.size) : Agree (fun b => b < N) w w' := fun b hb =>
  (h.block b (by simp; omega) (by simp; omega)).trans ((World.grownBy_alloc w o none).block b (by omega) (by simp))

set_option maxHeartbeats 4000000 in
theorem takeMap_of (d : Nat) (ih : TakeAt d) (N q n : Nat) (vk vn : Int) (a2 : Option Addr) (l2 p2 : Nat) (z x : Value) (vK : List (List Int)) (vL : List (Vl d)) (deep : Nat) (w : World) (hz : KSeg (fun b => b < N) w z vK) (hx : LSeg (fun b => b < N) w d x vL) (hNq : N ≤ q) (hq : q < w.heap.size) (hc : Cnt w q n) (hn : n ≤ 40) (hd : deep ≤ 5) :
    Calls Try.prog 41 #[.pointer (some ⟨q, 0, none⟩), .agg #[.int .i64 vk, .int .i64 vn, .slice a2 l2 p2, z, x], .int .i64 deep] w fun e w' =>
      w.grownBy w' (some q) ∧ ((∃ p, e = .returned (.tuple #[p, .bool true]) ∧ TookMap d vK vL deep n q w w' p) ∨ (e = .returned (.tuple #[.nilIface, .bool false]) ∧ NoMap d vK vL deep n)) := by
  have HX := hide' hx
  have HZ := hide' hz
  obtain ⟨a4, p4, rfl, hlc, hcm, ka, _⟩ := hx
  obtain ⟨a3, p3, rfl, hlc3, hcm3, ka3, _⟩ := hz
  unfold maxLen at hcm hcm3
  generalize hO : Obj.cells #[.int .i64 vk, .int .i64 vn, .slice a2 l2 p2, .slice a3 vK.length p3, .slice a4 vL.length p4] 32 = ob
  have HOb := hide' hO
  have gB : w.grownBy (w.alloc ob) (some q) := World.grownBy_alloc w ob (some q)
  have agB : Agree (fun b => b < N) w (w.alloc ob) := fun b hb => gB.block b (by omega) (by simp; omega)
  have HG := hide' gB
  by_cases hkl : vK.length = vL.length
  · have HA : Hid (Calls Try.prog 46 #[.slice a3 vK.length p3] (w.alloc ob) fun e w' => e = .returned (.bool (ascB vK)) ∧ w.alloc ob = w') := ascendingNames_any _ _ vK _ (HZ.out.agree agB)
    have HT : Hid (Calls Try.prog 40 #[.pointer (some ⟨q, 0, none⟩), .slice a4 vL.length p4, .int .i64 ((deep : Int) + 1)] (w.alloc ob) fun e w' =>
        (w.alloc ob).grownBy w' (some q) ∧ ((∃ y, e = .returned (.tuple #[y, .bool true]) ∧ TookAll d vL (deep + 1) n q (w.alloc ob) w' y) ∨ (e = .returned (.tuple #[.slice none 0 0, .bool false]) ∧ ¬ ((∀ j (h : j < vL.length), goodB d vL[j] (deep + 1) = true) ∧ n + pre (partsV d) vL vL.length ≤ 40)))) := by
      have := takeAll_of d ih N q n _ vL (deep + 1) (w.alloc ob) (HX.out.agree agB) hNq (by simp; omega) (hc.keep (World.grownBy_alloc w ob none) (by simp)) hn (by omega)
      rw [Int.natCast_add] at this
      exact this
    have HKL := hide' hkl
    rw [hkl] at HA hlc3
    rw [hkl] at hO HOb
    rw [hkl] at HZ
    clear ih hc agB gB
    by_cases has : ascB vK = true
    · rw [has] at HA
      have HAs := hide' has
      clear has
      rw [hkl]
      subst hO
      clear hkl
      go_enter Try.func41, Try.ntmps41
      go_wp2_with fail
      refine HA.out.mono ?_
      rintro e w1 ⟨rfl, e1⟩
      obtain rfl := e1
      go_wp2_with fail
      refine HT.out.mono ?_
      rintro e w1 ⟨hg1, hcase⟩
      rcases hcase with ⟨y, rfl, htook⟩ | ⟨rfl, hbad⟩
      · obtain ⟨hgood, hle, hcnt, a, cap, ps, rfl, hcell, hpp⟩ := htook
        have hlen : vL.length ≤ 40 := by have := pre_ge d vL vL.length (Nat.le_refl _); omega
        have hq1 : q < w1.heap.size := by have := hg1.size; simp at this; omega
        have hbx : w.heap.size < w1.heap.size := by have := hg1.size; simp at this; omega
        have HGo := hide' hgood
        have HLe := hide' hle
        have HCn := hide' hcnt
        have HG1 := hide' hg1
        have hag : Agree (fun b => b < N) w w1 := fun b hb => agree_box hg1 hNq hq b hb
        have hrow : w1.heap[w.heap.size]? = some (.cells #[.int .i64 vk, .int .i64 vn, .slice a2 l2 p2, .slice a3 vL.length p3, .slice a4 vL.length p4] 32 (0, 0)) :=
          (hg1.block w.heap.size (by simp) (by simp; omega)).trans (MapKept.heap_alloc w _).1
        obtain ⟨y0, y1, y2, y3, y4, _⟩ := row5 hrow
        have HMW := hide' (mapWith_of N _ vK vL.length a cap ps w1 (HZ.out.agree hag) (by omega) HKL.out hlen (by
          rcases hcell with h0 | ⟨b, rfl, _, hb, hcc⟩
          · exact .inl (by rw [h0]; rfl)
          · exact .inr ⟨b, 0, rfl, hb, fun i hi => by rw [Nat.zero_add]; exact hcc i hi⟩) (fun i hi => (hpp i hi).shape))
        have HPp := hide' hpp
        clear hgood hle hcnt hcell hpp HA HT hag hrow hg1
        go_wp2_with fail
        refine HMW.out.mono ?_
        rintro e w2 ⟨mb, rfl, hmb, hmb2, hown, hB2⟩
        have hsz1 : w.heap.size + 1 ≤ w1.heap.size := by omega
        have hP : PSeg (fun b => w.heap.size ≤ b ∧ b < w2.heap.size) w2 (d + 1) (.iface 72 (.agg #[.map (some mb)])) (5, 0, [], vK, vL) := by
          refine .inr (.inr (.inr (.inr (.inr (.inr ⟨rfl, mb, ps, rfl, ⟨by omega, by omega⟩, hown.mono (n' := 64) (by omega), fun i hi => ?_⟩)))))
          refine PSeg.carry (fun b hb => ⟨?_, ?_⟩) (fun b hb => hB2.block b hb.2) d (HPp.out i hi)
          · have := hb.1
            simp at this
            omega
          · have := hb.2
            have := hB2.size
            omega
        have hcn : Cnt w2 q (n + pre (partsV d) vL vL.length) := (hB2.block q hq1).trans HCn.out
        have hgf : w.grownBy w2 (some q) := grownBy_fresh (grownBy_trans HG.out HG1.out) (below_grown hB2 none) (by simp)
        have HF : Hid (TookMap d vK vL deep n q w w2 (.iface 72 (.agg #[.map (some mb)]))) := ⟨HKL.out, HAs.out, HGo.out, HLe.out, hcn, hP⟩
        clear hP hcn hown hB2
        go_wp2
        go_ret2
        exact ⟨hgf, .inl ⟨_, rfl, HF.out⟩⟩
      · have hgf := grownBy_trans HG.out hg1
        have hno : NoMap d vK vL deep n := fun h => hbad h.2.2
        go_wp2
        go_ret2
        exact ⟨hgf, .inr ⟨rfl, hno⟩⟩
    · have has' : ascB vK = false := by simpa using has
      rw [has'] at HA
      have hno : NoMap d vK vL deep n := fun h => has h.2.1
      have Hno := hide' hno
      clear has has' hno
      rw [hkl]
      subst hO
      clear hkl HT
      go_enter Try.func41, Try.ntmps41
      go_wp2_with fail
      refine HA.out.mono ?_
      rintro e w1 ⟨rfl, e1⟩
      obtain rfl := e1
      go_wp2
      go_ret2
      exact ⟨HG.out, .inr ⟨rfl, Hno.out⟩⟩
  · have hne : ¬ (vK.length : Int) = (vL.length : Int) := by omega
    have Hno : Hid (NoMap d vK vL deep n) := fun h => hkl h.1
    subst hO
    clear ih hkl agB gB
    go_enter Try.func41, Try.ntmps41
    go_wp2
    go_ret2
    exact ⟨HG.out, .inr ⟨rfl, Hno.out⟩⟩
end Go.Proofs.Ythgcljefmkiepaa
