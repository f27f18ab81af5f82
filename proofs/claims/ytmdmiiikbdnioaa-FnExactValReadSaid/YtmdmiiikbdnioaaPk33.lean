/-
  Texts that a law leans on, one behind the other; no statement is proved here.
-/
import Derived.Test.YtmdmiiikbdnioaaPk32
/-
  ValBytes of the program: putPart of a part without parts.
-/
namespace Go.Proofs.Ytmdmiiikbdnioaa
open Go.RowKit Go.Shelf
set_option linter.unusedVariables false
set_option linter.unusedSimpArgs false

/-- What putPart has left. -/
def PPEnd (w : World) (ys : List Int) (e : Ending) (w' : World) : Prop := ∃ u, e = .returned u ∧ Bts w' w.heap.size u ys ∧ Below w.heap.size w w'

set_option maxHeartbeats 1000000 in
set_option maxRecDepth 100000 in
theorem putPart_nullPart (a : Option Addr) (cap : Nat) (xs : List Int) (w : World) (hs : Seg w a xs) (ka : a = none → cap = 0) (hl : xs.length ≤ 1000000) :
    Calls Try.prog 18 #[.slice a xs.length cap, .iface 89 (.agg #[])] w (PPEnd w (putNum xs 0)) := by
  have m1 := meth_nullPart (.agg #[])
  have t1 := nobool_nullPart (.agg #[])
  have t2 := noint_nullPart (.agg #[])
  have t3 := notext_nullPart (.agg #[])
  have t4 := nolist_nullPart (.agg #[])
  have t5 := nomap_nullPart (.agg #[])
  have HK := hide' (kind_nullPart)
  have H1 : Hid (∀ wx, Below w.heap.size w wx → Calls Try.prog 37 #[.slice a xs.length cap, .int .i64 0] wx (PEnd wx (putNum xs 0))) := fun wx hb => impl_PutNum_end a cap xs 0 wx (hs.grow hb) ka (by omega)
  have hpl := putNum_len xs 0
  clear hs
  go_enter Try.func18, Try.ntmps18
  go_wp2_with fail
  refine (HK.out _).mono ?_
  rintro e w1 ⟨rfl, b1⟩
  have B1 := b1
  clear b1
  go_wp2_with fail
  refine (H1.out _ B1).mono ?_
  rintro e w2 ⟨a1, c1, rfl, hB1, b2, k1⟩
  have B2 := Below.on B1 b2
  have HB1 := hide' (hB1.mono (base' := w.heap.size) B1.size)
  generalize (putNum xs 0).length = n1 at *
  clear b2 hB1 HK m1
  go_wp2
  go_ret
  exact ⟨_, rfl, HB1.out, B2⟩

set_option maxHeartbeats 1000000 in
set_option maxRecDepth 100000 in
theorem putPart_unknownPart (a : Option Addr) (cap : Nat) (xs : List Int) (w : World) (hs : Seg w a xs) (ka : a = none → cap = 0) (hl : xs.length ≤ 1000000) :
    Calls Try.prog 18 #[.slice a xs.length cap, .iface 90 (.agg #[])] w (PPEnd w (putNum xs 6)) := by
  have m1 := meth_unknownPart (.agg #[])
  have t1 := nobool_unknownPart (.agg #[])
  have t2 := noint_unknownPart (.agg #[])
  have t3 := notext_unknownPart (.agg #[])
  have t4 := nolist_unknownPart (.agg #[])
  have t5 := nomap_unknownPart (.agg #[])
  have HK := hide' (kind_unknownPart)
  have H1 : Hid (∀ wx, Below w.heap.size w wx → Calls Try.prog 37 #[.slice a xs.length cap, .int .i64 6] wx (PEnd wx (putNum xs 6))) := fun wx hb => impl_PutNum_end a cap xs 6 wx (hs.grow hb) ka (by omega)
  have hpl := putNum_len xs 6
  clear hs
  go_enter Try.func18, Try.ntmps18
  go_wp2_with fail
  refine (HK.out _).mono ?_
  rintro e w1 ⟨rfl, b1⟩
  have B1 := b1
  clear b1
  go_wp2_with fail
  refine (H1.out _ B1).mono ?_
  rintro e w2 ⟨a1, c1, rfl, hB1, b2, k1⟩
  have B2 := Below.on B1 b2
  have HB1 := hide' (hB1.mono (base' := w.heap.size) B1.size)
  generalize (putNum xs 6).length = n1 at *
  clear b2 hB1 HK m1
  go_wp2
  go_ret
  exact ⟨_, rfl, HB1.out, B2⟩

set_option maxHeartbeats 1000000 in
set_option maxRecDepth 100000 in
theorem putPart_boolPart (vn : Int) (a : Option Addr) (cap : Nat) (xs : List Int) (w : World) (hs : Seg w a xs) (ka : a = none → cap = 0) (hl : xs.length ≤ 1000000) :
    Calls Try.prog 18 #[.slice a xs.length cap, .iface 69 (.agg #[.int .i64 vn])] w (PPEnd w (putNum (putNum xs 1) vn)) := by
  have m1 := meth_boolPart (.agg #[.int .i64 vn])
  have t1 := is_boolPart (.agg #[.int .i64 vn])
  have HK := hide' (kind_boolPart vn)
  have H1 : Hid (∀ wx, Below w.heap.size w wx → Calls Try.prog 37 #[.slice a xs.length cap, .int .i64 1] wx (PEnd wx (putNum xs 1))) := fun wx hb => impl_PutNum_end a cap xs 1 wx (hs.grow hb) ka (by omega)
  have hpl := putNum_len xs 1
  clear hs
  go_enter Try.func18, Try.ntmps18
  go_wp2_with fail
  refine (HK.out _).mono ?_
  rintro e w1 ⟨rfl, b1⟩
  have B1 := b1
  clear b1
  go_wp2_with fail
  refine (H1.out _ B1).mono ?_
  rintro e w2 ⟨a1, c1, rfl, hB1, b2, k1⟩
  have B2 := Below.on B1 b2
  have H2 : Hid (∀ o : Obj, Calls Try.prog 37 #[.slice a1 (putNum xs 1).length c1, .int .i64 vn] (w2.alloc o) (PEnd (w2.alloc o) (putNum (putNum xs 1) vn))) := fun o => impl_PutNum_end a1 c1 (putNum xs 1) vn (w2.alloc o) (hB1.seg.grow ((Below.refl _ _).alloc (Nat.le_refl _) o)) k1 (by omega)
  have HA : Hid (∀ o : Obj, Below w.heap.size w (w2.alloc o)) := fun o => Below.on B2 ((Below.refl _ _).alloc (Nat.le_refl _) o)
  generalize putNum xs 1 = z1 at *
  generalize z1.length = n1 at *
  clear b2 hB1 HK m1
  go_wp2_with fail
  refine (H2.out _).mono ?_
  rintro e w3 ⟨a3, c3, rfl, hB3, b3, k3⟩
  have B3 := Below.on (HA.out _) b3
  have HB3 := hide' (hB3.mono (base' := w.heap.size) (HA.out _).size)
  generalize (putNum z1 vn).length = n3 at *
  clear b3 hB3 H2
  go_wp2
  go_ret
  exact ⟨_, rfl, HB3.out, B3⟩

set_option maxHeartbeats 1000000 in
set_option maxRecDepth 100000 in
theorem putPart_intPart (vn : Int) (a : Option Addr) (cap : Nat) (xs : List Int) (w : World) (hs : Seg w a xs) (ka : a = none → cap = 0) (hl : xs.length ≤ 1000000) (hlo : -1000000000000 ≤ vn) (hhi : vn ≤ 1000000000000) :
    Calls Try.prog 18 #[.slice a xs.length cap, .iface 70 (.agg #[.int .i64 vn])] w (PPEnd w (putI (putNum xs 2) vn)) := by
  have m1 := meth_intPart (.agg #[.int .i64 vn])
  have t1 := nobool_intPart (.agg #[.int .i64 vn])
  have t2 := is_intPart (.agg #[.int .i64 vn])
  have HK := hide' (kind_intPart vn)
  have H1 : Hid (∀ wx, Below w.heap.size w wx → Calls Try.prog 37 #[.slice a xs.length cap, .int .i64 2] wx (PEnd wx (putNum xs 2))) := fun wx hb => impl_PutNum_end a cap xs 2 wx (hs.grow hb) ka (by omega)
  have hpl := putNum_len xs 2
  clear hs
  go_enter Try.func18, Try.ntmps18
  go_wp2_with fail
  refine (HK.out _).mono ?_
  rintro e w1 ⟨rfl, b1⟩
  have B1 := b1
  clear b1
  go_wp2_with fail
  refine (H1.out _ B1).mono ?_
  rintro e w2 ⟨a1, c1, rfl, hB1, b2, k1⟩
  have B2 := Below.on B1 b2
  have H2 : Hid (∀ o : Obj, Calls Try.prog 38 #[.slice a1 (putNum xs 2).length c1, .int .i64 vn] (w2.alloc o) (PEnd (w2.alloc o) (putI (putNum xs 2) vn))) := fun o => putInt_any a1 c1 (putNum xs 2) vn (w2.alloc o) (hB1.seg.grow ((Below.refl _ _).alloc (Nat.le_refl _) o)) k1 (by omega) hlo hhi
  have HA : Hid (∀ o : Obj, Below w.heap.size w (w2.alloc o)) := fun o => Below.on B2 ((Below.refl _ _).alloc (Nat.le_refl _) o)
  generalize putNum xs 2 = z1 at *
  generalize z1.length = n1 at *
  clear b2 hB1 HK m1
  go_wp2_with fail
  refine (H2.out _).mono ?_
  rintro e w3 ⟨a3, c3, rfl, hB3, b3, k3⟩
  have B3 := Below.on (HA.out _) b3
  have HB3 := hide' (hB3.mono (base' := w.heap.size) (HA.out _).size)
  generalize (putI z1 vn).length = n3 at *
  clear b3 hB3 H2
  go_wp2
  go_ret
  exact ⟨_, rfl, HB3.out, B3⟩

end Go.Proofs.Ytmdmiiikbdnioaa
