/-
  Texts that a law leans on, one behind the other; no statement is proved here.
-/
import Derived.Test.YtdhlmcgbgdljmaaGreatDoorPk17
import Derived.Test.YtdhlmcgbgdljmaaGreatDoorPk3
import Derived.Lib.AppendZeros
import Derived.Deep.AppendLies
import Derived.Deep.Upon
import Derived.Test.YtdhlmcgbgdljmaaGreatDoorPk9
/-
  slices.Grow, slices.Concat at a path and nothing more.
-/
namespace Go.Proofs.YtdhlmcgbgdljmaaGreatDoor
open Go.RowKit
set_option linter.unusedVariables false
set_option linter.unusedSimpArgs false

theorem app_nothing (ty : TypeId) (w : World) (b : Option Addr) (n c : Nat) (h : n ≤ c) (a : Option Addr) (p : Nat) : (Builtin.append_ #[32, 32] ty #[.slice b n c, .slice a 0 p]).run Tryz.prog w = .ok (.slice b n c) w := by
  obtain ⟨i0, hi, hz0, hz1, hz2⟩ := info_parts infoP
  refine run_append_nothing w 32 32 ty 70 i0 Tryz.underlying32 hi b n c h _ ?_
  cases a with
  | none => exact Src.ofNil w Tryz.underlying32 p
  | some a => exact Src.ofSlice w Tryz.underlying32 a 0 p [] (Nat.zero_mul _).symm (fun j u hj => by simp at hj) (fun u hu => by simp at hu)

set_option maxHeartbeats 1600000 in
theorem grow_none (w : World) : Calls Tryz.prog 74 #[.slice none 0 0, .int .i64 0] w fun e w' => e = .returned (.slice none 0 0) ∧ w = w' := by
  go_enter Tryz.func74, Tryz.ntmps74
  go_wp2
  go_ret
  exact ⟨rfl, rfl⟩

set_option maxHeartbeats 1600000 in
set_option maxRecDepth 100000 in
theorem grow_some (n : Nat) (h1 : 0 < n) (h6 : n ≤ 6) (w : World) :
    Calls Tryz.prog 74 #[.slice none 0 0, .int .i64 n] w fun e w' => ∃ g cap, e = .returned (.slice (some ⟨g, 0, none⟩) 0 cap) ∧ w'.ownsRow w.heap.size 70 3 (.slice (some ⟨g, 0, none⟩) 0 cap) 0 [] ∧ Below w.heap.size w w' := by
  obtain ⟨i0, hi, hz0, hz1, hz2⟩ := info_parts infoP
  have hr := fun ty => Lib.run_append_nil_zeros (P := Tryz.prog) w 32 3 ty 70 i0 _ .i64 .i64 Tryz.underlying32 (by kernel_rfl) hi hz0 n h1 (by omega) (by omega) (by rw [hz2]; omega)
  obtain ⟨c0, ec⟩ : ∃ c0, c0 = grownCap w n 0 70 := ⟨_, rfl⟩
  have hge : n ≤ c0 := by rw [ec]; exact grownCap_ge _ _ _ _
  have hle : c0 ≤ maxLen := by rw [ec]; exact grownCap_le_maxLen _ _ _ _ (by unfold maxLen; omega)
  rw [← ec] at hr
  obtain ⟨cur, ecur⟩ : ∃ cur, cur = Builtin.zeroCells (Value.agg #[.int .i64 0, .slice none 0 0, .int .i64 0]).cells n ++ Builtin.zeroCells (Value.agg #[.int .i64 0, .slice none 0 0, .int .i64 0]).cells (c0 - n) := ⟨_, rfl⟩
  have hcs : cur.size = c0 * 3 := by
    have e3 : (Value.agg #[.int .i64 0, .slice none 0 0, .int .i64 0]).cells.size = 3 := by rfl
    rw [ecur, Array.size_append, size_zeroCells, size_zeroCells, e3]
    omega
  rw [← ecur] at hr
  have HO : Hid ((w.drew.alloc (.cells cur 70)).ownsRow w.heap.size 70 3 (.slice (some ⟨w.heap.size, 0, none⟩) 0 c0) 0 [] ∧ Below w.heap.size w (w.drew.alloc (.cells cur 70))) := by
    refine ⟨⟨by simp, .inr ⟨w.heap.size, c0, cur, rfl, Nat.le_refl _, (MapKept.heap_alloc w.drew _).1, Nat.zero_le _, hle, hcs, by simp⟩⟩, ?_⟩
    exact ((Below.refl w.heap.size w).drew).alloc (Nat.le_refl _) _
  have hs : ∀ wx, (Instr.slice 32 (.slice (some ⟨w.heap.size, 0, none⟩) n c0) none (some (.int .i64 0)) none).run Tryz.prog wx = .ok (.slice (some ⟨w.heap.size, 0, none⟩) 0 c0) wx := fun wx => sliceSt_to wx _ n c0 0 (Nat.zero_le _) hle
  have hs0 : ∀ wx, (Instr.slice 32 (.slice none 0 0) none (some (.int .i64 0)) none).run Tryz.prog wx = .ok (.slice none 0 0) wx := fun wx => sliceSt_to wx _ 0 0 0 (Nat.zero_le _) (Nat.zero_le _)
  have hw1 : wrap64 (n : Int) = (n : Int) := by unfold wrap64; omega
  have hn0 : ¬ (n : Int) < 0 := by omega
  have hn1 : (0 : Int) < (n : Int) := by omega
  clear ec hi hz0 hz1 hz2 ecur hcs hge hle
  go_enter Tryz.func74, Tryz.ntmps74
  go_wp2_with (at_builtin; refine Lib.wpList_append_run _ rfl (.tmp 20) (.tmp 21) 32 3 (by rfl) (.slice none 0 0) (.int .i64 n) (by rfl) (by rfl) _ _ (hr _) ?_)
  go_wp2
  go_ret
  exact ⟨_, _, rfl, HO.out.1, HO.out.2⟩

/-- The cells of a path, in a row. -/
theorem PthSeg.row {R : Nat → Prop} {w : World} {a : Option Addr} {n cap : Nat} {l : List Stp} (h : PthSeg R w (.slice a n cap) l) (h0 : 0 < n) :
    ∃ (b off : Nat) (news : List Value), a = some ⟨b, off, none⟩ ∧ news.length = n * 3 ∧ (∀ j u, news[j]? = some u → w.cell? (Addr.add ⟨b, off, none⟩ j) = some u) ∧ (∀ u ∈ news, u.oneCell' = true) ∧
      ∀ i (h : i < l.length), ∃ c0 c1 c2, news[i * 3]? = some c0 ∧ news[i * 3 + 1]? = some c1 ∧ news[i * 3 + 2]? = some c2 ∧ StSeg R w (c0, c1, c2) l[i] := by
  obtain ⟨a', cap', g1, g2, g3, g4, g5⟩ := h
  simp only [Value.slice.injEq] at g1
  obtain ⟨rfl, rfl, rfl⟩ := g1
  rcases g5 with e | ⟨b, off, hb, hR, hc⟩
  · rw [e] at h0; simp at h0
  · have hcell : ∀ j, j < l.length * 3 → ∃ u, w.cell? ⟨b, off + j, none⟩ = some u ∧ u.oneCell' = true := by
      intro j hj
      obtain ⟨e, ⟨t0, t1, t2⟩, ⟨s0, s1, s2⟩⟩ := hc (j / 3) (by omega)
      have hmod : j % 3 = 0 ∨ j % 3 = 1 ∨ j % 3 = 2 := by omega
      rcases hmod with q | q | q
      · refine ⟨e.1, ?_, by rw [s0]; rfl⟩
        rw [← t0]; congr 2; omega
      · refine ⟨e.2.1, ?_, by obtain ⟨_, _, e1, _⟩ := s1; rw [e1]; rfl⟩
        rw [← t1]; congr 2; omega
      · refine ⟨e.2.2, ?_, by rw [s2]; rfl⟩
        rw [← t2]; congr 2; omega
    refine ⟨b, off, (List.range (l.length * 3)).map fun j => (w.cell? ⟨b, off + j, none⟩).getD (.bool false), hb, by simp, ?_, ?_, ?_⟩
    · intro j u hj
      rw [List.getElem?_map] at hj
      by_cases hlt : j < l.length * 3
      · rw [List.getElem?_range hlt] at hj
        obtain ⟨u', hu, _⟩ := hcell j hlt
        simp only [Option.map_some, Option.some.injEq, hu, Option.getD_some] at hj
        rw [← hj]
        rw [Addr.add_lit]
        exact hu
      · rw [List.getElem?_eq_none (by simp; omega)] at hj
        simp at hj
    · intro u hu
      obtain ⟨j, hj, rfl⟩ := List.mem_map.1 hu
      obtain ⟨u', hu', h1⟩ := hcell j (by simpa using hj)
      rw [hu']
      exact h1
    · intro i hi
      obtain ⟨⟨c0, c1, c2⟩, ⟨t0, t1, t2⟩, hs⟩ := hc i hi
      refine ⟨c0, c1, c2, ?_, ?_, ?_, hs⟩
      · rw [List.getElem?_map, List.getElem?_range (by omega)]
        simp only [Option.map_some]
        rw [t0]; rfl
      · rw [List.getElem?_map, List.getElem?_range (by omega)]
        simp only [Option.map_some, ← Nat.add_assoc]
        rw [t1]; rfl
      · rw [List.getElem?_map, List.getElem?_range (by omega)]
        simp only [Option.map_some, ← Nat.add_assoc]
        rw [t2]; rfl
end Go.Proofs.YtdhlmcgbgdljmaaGreatDoor
/-
  slices.Concat at a path and nothing more: a row of its own that holds the path's cells.
-/
namespace Go.Proofs.YtdhlmcgbgdljmaaGreatDoor
open Go.RowKit
set_option linter.unusedVariables false
set_option linter.unusedSimpArgs false

/-- What Concat leaves: a row with the cells of the path. -/
def CatEnd (N n : Nat) (l : List Stp) (w : World) (e : Ending) (w' : World) : Prop :=
  ∃ v cs, e = .returned v ∧ w'.ownsRow w.heap.size 70 3 v n cs ∧ (∀ i (h : i < l.length), ∃ c0 c1 c2, cs[i * 3]? = some c0 ∧ cs[i * 3 + 1]? = some c1 ∧ cs[i * 3 + 2]? = some c2 ∧ StSeg (fun b => b < N) w (c0, c1, c2) l[i]) ∧ Below w.heap.size w w'

theorem row_onC {w w' : World} {base : Nat} {e : TypeId} {s : Nat} {v : Value} {n : Nat} {xs : List Value} (h : w.ownsRow base e s v n xs) (hb : Below w.heap.size w w') : w'.ownsRow base e s v n xs :=
  World.ownsRow.kept h (row := none) ⟨hb.os, hb.tape, hb.output, hb.size, fun k hk _ => hb.block k hk⟩ (by cases v.ownBlock <;> simp)

set_option maxHeartbeats 3200000 in
set_option maxRecDepth 100000 in
theorem concat_none (N s p : Nat) (a : Option Addr) (w : World) (hs : w.heap[s]? = some (.cells #[.slice a 0 p, .slice none 0 0] 32 (0, 0))) :
    Calls Tryz.prog 64 #[.slice (some ⟨s, 0, none⟩) 2 2] w (CatEnd N 0 [] w) := by
  have u0 : w.cell? ⟨s, 0, none⟩ = some (.slice a 0 p) := by rw [cell_of_row _ _ 0 _ _ _ hs]; rfl
  have u1 : w.cell? ⟨s, 1, none⟩ = some (.slice none 0 0) := by rw [cell_of_row _ _ 1 _ _ _ hs]; rfl
  have HE : Hid (CatEnd N 0 [] w (.returned (.slice none 0 0)) w) := ⟨_, [], rfl, World.ownsRow_nil _ _ _ _, fun i h => by simp at h, Below.refl _ _⟩
  generalize CatEnd N 0 [] w = Q at *
  clear hs
  go_enter Tryz.func64, Tryz.ntmps64
  go_wp2
  go_loopw [3, 11] (fun z i wr => Hid (w = wr) ∧ z = .int .i64 0 ∧ (i = .int .i64 0 ∨ i = .int .i64 1 ∨ i = .int .i64 2)) (fun _ i _ => 2 - (intOf i).toNat)
  case atStart => exact ⟨hide' rfl, by simp, by simp⟩
  case round =>
    obtain ⟨hw, rfl, hi⟩ := hrel
    obtain rfl := hw.out
    rcases hi with rfl | rfl | rfl
    · go_wp2
      go_roundw
      case rel => exact ⟨by trivial, by simp, by simp⟩
      case measure => simp [intOf]
    · go_wp2
      go_roundw
      case rel => exact ⟨by trivial, by simp, by simp⟩
      case measure => simp [intOf]
    · go_wp2_with fail
      refine (grow_none _).mono ?_
      rintro e w1 ⟨rfl, rfl⟩
      go_wp2
      go_loopw [6, 27] (fun z i wr => Hid (w = wr) ∧ z = .slice none 0 0 ∧ (i = .int .i64 0 ∨ i = .int .i64 1 ∨ i = .int .i64 2)) (fun _ i _ => 2 - (intOf i).toNat)
      case atStart => exact ⟨hide' rfl, by simp, by simp⟩
      case round =>
        obtain ⟨hw, rfl, hi⟩ := hrel
        obtain rfl := hw.out
        rcases hi with rfl | rfl | rfl
        · go_wp2_with (at_builtin; refine Lib.wpList_append_run _ rfl (.tmp 31) (.tmp 32) 32 32 (by rfl) (.slice none 0 0) (.slice a 0 p) (by rfl) (by rfl) _ _ (app_nothing _ _ _ 0 0 (Nat.le_refl _) _ _) ?_)
          go_wp2
          go_roundw
          case rel => exact ⟨by trivial, by simp, by simp⟩
          case measure => simp [intOf]
        · go_wp2_with (at_builtin; refine Lib.wpList_append_run _ rfl (.tmp 31) (.tmp 32) 32 32 (by rfl) (.slice none 0 0) (.slice none 0 0) (by rfl) (by rfl) _ _ (app_nothing _ _ _ 0 0 (Nat.le_refl _) _ _) ?_)
          go_wp2
          go_roundw
          case rel => exact ⟨by trivial, by simp, by simp⟩
          case measure => simp [intOf]
        · go_wp2
          exact HE.out
end Go.Proofs.YtdhlmcgbgdljmaaGreatDoor
/-
  slices.Concat at a path with steps and nothing more.
-/
namespace Go.Proofs.YtdhlmcgbgdljmaaGreatDoor
open Go.RowKit
set_option linter.unusedVariables false
set_option linter.unusedSimpArgs false

/-- What stands behind the append. -/
def CatRow (N n : Nat) (l : List Stp) (w : World) (v : Value) (wr : World) : Prop :=
  ∃ cs, wr.ownsRow w.heap.size 70 3 v n cs ∧ (∀ i (h : i < l.length), ∃ c0 c1 c2, cs[i * 3]? = some c0 ∧ cs[i * 3 + 1]? = some c1 ∧ cs[i * 3 + 2]? = some c2 ∧ StSeg (fun b => b < N) w (c0, c1, c2) l[i]) ∧ Below w.heap.size w wr

set_option maxHeartbeats 3200000 in
set_option maxRecDepth 100000 in
theorem concat_some (N s n p : Nat) (a : Option Addr) (l : List Stp) (w : World) (hs : w.heap[s]? = some (.cells #[.slice a n p, .slice none 0 0] 32 (0, 0))) (hx : PthSeg (fun b => b < N) w (.slice a n p) l) (hN : N ≤ w.heap.size) (h0 : 0 < n) (h6 : n ≤ 6) :
    Calls Tryz.prog 64 #[.slice (some ⟨s, 0, none⟩) 2 2] w (CatEnd N n l w) := by
  obtain ⟨i0, hi0, hz0, hz1, hz2⟩ := info_parts infoP
  have u0 : w.cell? ⟨s, 0, none⟩ = some (.slice a n p) := by rw [cell_of_row _ _ 0 _ _ _ hs]; rfl
  have u1 : w.cell? ⟨s, 1, none⟩ = some (.slice none 0 0) := by rw [cell_of_row _ _ 1 _ _ _ hs]; rfl
  have hsz : s < w.heap.size := (Array.getElem?_eq_some_iff.1 hs).1
  have HE : Hid (∀ v wr, CatRow N n l w v wr → CatEnd N n l w (.returned v) wr) := fun v wr ⟨cs, h1, h2, h3⟩ => ⟨_, cs, rfl, h1, h2, h3⟩
  have HG : Hid (Calls Tryz.prog 74 #[.slice none 0 0, .int .i64 n] w fun e w' => ∃ g cap, e = .returned (.slice (some ⟨g, 0, none⟩) 0 cap) ∧ w'.ownsRow w.heap.size 70 3 (.slice (some ⟨g, 0, none⟩) 0 cap) 0 [] ∧ Below w.heap.size w w') := grow_some n h0 h6 w
  have HX : Hid (∀ w1, Below w.heap.size w w1 → ∃ (b off : Nat) (news : List Value), a = some ⟨b, off, none⟩ ∧ news.length = n * 3 ∧ (∀ j u, news[j]? = some u → w1.cell? (Addr.add ⟨b, off, none⟩ j) = some u) ∧ (∀ u ∈ news, u.oneCell' = true) ∧
      ∀ i (h : i < l.length), ∃ c0 c1 c2, news[i * 3]? = some c0 ∧ news[i * 3 + 1]? = some c1 ∧ news[i * 3 + 2]? = some c2 ∧ StSeg (fun b => b < N) w (c0, c1, c2) l[i]) := fun w1 hb => by
    obtain ⟨b, off, news, e1, e2, e3, e4, e5⟩ := (hx.agree (agree_below (hb.mono hN))).row h0
    refine ⟨b, off, news, e1, e2, e3, e4, fun i hi => ?_⟩
    obtain ⟨c0, c1, c2, q0, q1, q2, q3⟩ := e5 i hi
    exact ⟨c0, c1, c2, q0, q1, q2, q3.agree (fun b hb' => (hb.block b (by omega)).symm)⟩
  have hw1 : wrap64 (n : Int) = (n : Int) := by unfold wrap64; omega
  have hn0 : ¬ (n : Int) < 0 := by omega
  generalize CatEnd N n l w = Q at *
  clear hs hx
  go_enter Tryz.func64, Tryz.ntmps64
  go_wp2
  go_loopw [3, 11] (fun z i wr => Hid (w = wr) ∧ ((i = .int .i64 0 ∧ z = .int .i64 0) ∨ (i = .int .i64 1 ∧ z = .int .i64 n) ∨ (i = .int .i64 2 ∧ z = .int .i64 n))) (fun _ i _ => 2 - (intOf i).toNat)
  case atStart => exact ⟨hide' rfl, .inl ⟨rfl, rfl⟩⟩
  case round =>
    obtain ⟨hw, hi⟩ := hrel
    obtain rfl := hw.out
    clear hw
    rcases hi with ⟨rfl, rfl⟩ | ⟨rfl, rfl⟩ | ⟨rfl, rfl⟩
    · go_wp2
      go_roundw
      case rel => exact ⟨by trivial, by simp⟩
      case measure => simp [intOf]
    · go_wp2
      go_roundw
      case rel => exact ⟨by trivial, by simp⟩
      case measure => simp [intOf]
    · go_wp2_with fail
      refine HG.out.mono ?_
      rintro e w1 ⟨g, cap, rfl, hO, b1⟩
      have v0 : w1.cell? ⟨s, 0, none⟩ = some (.slice a n p) := (World.cell?_of_block (a := ⟨s, 0, none⟩) (b1.block s hsz)).trans u0
      have v1 : w1.cell? ⟨s, 1, none⟩ = some (.slice none 0 0) := (World.cell?_of_block (a := ⟨s, 1, none⟩) (b1.block s hsz)).trans u1
      obtain ⟨b, off, news, rfl, n1, n2, n3, n4⟩ := HX.out w1 b1
      have HO := hide' hO
      have HB := hide' b1
      have N2 := hide' n2
      have N3 := hide' n3
      have N4 := hide' n4
      have HV : Hid (∀ wr, Below w.heap.size w wr → wr.cell? ⟨s, 1, none⟩ = some (.slice none 0 0)) := fun wr hb => (World.cell?_of_block (a := ⟨s, 1, none⟩) (hb.block s hsz)).trans u1
      clear hO b1 HX HG n2 n3 n4 u0 u1
      go_wp2
      go_loopw [6, 27] (fun v i wr => (i = .int .i64 0 ∧ v = .slice (some ⟨g, 0, none⟩) 0 cap ∧ Hid (w1 = wr)) ∨ ((i = .int .i64 1 ∨ i = .int .i64 2) ∧ ∃ va vc, v = .slice va n vc ∧ n ≤ vc ∧ Hid (CatRow N n l w v wr))) (fun _ i _ => 2 - (intOf i).toNat)
      case atStart => exact .inl ⟨rfl, rfl, hide' rfl⟩
      case round =>
        rcases hrel with ⟨rfl, rfl, hw⟩ | ⟨rfl | rfl, va, vc, rfl, hvc, hR⟩
        · obtain rfl := hw.out
          clear hw
          go_wp2_with (at_builtin; refine wpList_append_lies _ rfl (.tmp 31) (.tmp 32) 32 (by rfl) w.heap.size 70 i0 _ 3 40 Tryz.underlying32 hi0 hz0 hz1 hz2 rfl (by decide) (.slice (some ⟨g, 0, none⟩) 0 cap) 0 [] (by rfl) HO.out ⟨b, off, none⟩ n p news (by rfl) n1 N2.out N3.out h0 (by unfold maxLen; omega) (by omega) HB.out.size _ rfl ?_; intro g6 cp6 w6 hown6 hg6 hat6 hlt6; simp only [Nat.zero_add, List.nil_append] at hown6; have hC6 := hide' (show CatRow N n l w (.slice (some ⟨g6, 0, none⟩) n cp6) w6 from ⟨news, hown6, N4.out, HB.out.grown hg6 HB.out.size (fun k hk => (HO.out.lt k hk).1)⟩); have hcp6 : n ≤ cp6 := (by rcases hown6.2 with ⟨e, _⟩ | ⟨g', c', cur, e, _, _, q, _⟩ <;> simp at e; obtain ⟨_, rfl⟩ := e; exact q); clear hown6 hg6 hat6 hlt6)
          go_wp2
          go_roundw
          case rel => exact .inr ⟨by simp, _, _, rfl, hcp6, hC6⟩
          case measure => simp [intOf]
        · have c1 := HV.out _ (by obtain ⟨_, _, _, q⟩ := hR.out; exact q)
          go_wp2_with (at_builtin; refine Lib.wpList_append_run _ rfl (.tmp 31) (.tmp 32) 32 32 (by rfl) (.slice va n vc) (.slice none 0 0) (by rfl) (by rfl) _ _ (app_nothing _ _ _ n vc hvc _ _) ?_)
          go_wp2
          go_roundw
          case rel => exact .inr ⟨by simp, _, _, rfl, hvc, hR⟩
          case measure => simp [intOf]
        · have HQ := hide' (HE.out _ _ hR.out)
          go_wp2
          exact HQ.out
end Go.Proofs.YtdhlmcgbgdljmaaGreatDoor
/-
  grown of the program at a path that may be, with nothing more behind it: new memory alone (what it holds is not said here).
-/
namespace Go.Proofs.YtdhlmcgbgdljmaaGreatDoor
open Go.RowKit
set_option linter.unusedVariables false
set_option linter.unusedSimpArgs false

theorem key_short {s : Stp} (h : stpB s = true) : s.2.1.length ≤ 8 := by
  obtain ⟨k, ss, i⟩ := s
  by_cases h0 : k = 0
  · subst h0
    rw [stpB_key] at h
    simp only [Bool.and_eq_true] at h
    have := h.1
    simp only [nameB, Bool.and_eq_true, decide_eq_true_eq] at this
    exact this.1.2
  · by_cases h1 : k = 1
    · subst h1
      rw [stpB_item] at h
      simp only [Bool.and_eq_true, decide_eq_true_eq] at h
      show ss.length ≤ 8
      omega
    · rw [stpB_none k ss i h0 h1] at h
      exact absurd h (by decide)

/-- The cells of a row. -/
theorem row_cells {w : World} {base : Nat} {T : TypeId} {s : Nat} {v : Value} {n : Nat} {cs : List Value} (h : w.ownsRow base T s v n cs) (h0 : 0 < n) :
    ∃ g c, v = .slice (some ⟨g, 0, none⟩) n c ∧ g < w.heap.size ∧ base ≤ g ∧ ∀ j u, cs[j]? = some u → w.cell? ⟨g, j, none⟩ = some u := by
  rcases h.2 with ⟨_, h1⟩ | ⟨g, cap, cur, rfl, hb, hh, h2, h3, h4, h5⟩
  · omega
  · refine ⟨g, cap, rfl, (Array.getElem?_eq_some_iff.1 hh).1, hb, fun j u hj => ?_⟩
    rw [cell_of_row w g j cur T (0, 0) hh]
    rw [← h5] at hj
    by_cases hlt : j < n * s
    · rw [List.getElem?_take_of_lt hlt, Array.getElem?_toList] at hj
      exact hj
    · rw [List.getElem?_eq_none (by simp; omega)] at hj
      simp at hj

theorem concat_any (N s n p : Nat) (a : Option Addr) (l : List Stp) (w : World) (hs : w.heap[s]? = some (.cells #[.slice a n p, .slice none 0 0] 32 (0, 0))) (hx : PthSeg (fun b => b < N) w (.slice a n p) l) (hN : N ≤ w.heap.size) (h6 : n ≤ 6) :
    Calls Tryz.prog 64 #[.slice (some ⟨s, 0, none⟩) 2 2] w (CatEnd N n l w) := by
  obtain ⟨_, _, e1, _⟩ := id hx
  simp only [Value.slice.injEq] at e1
  obtain ⟨-, hn, -⟩ := e1
  by_cases h0 : 0 < n
  · exact concat_some N s n p a l w hs hx hN h0 h6
  · obtain rfl : n = 0 := by omega
    obtain rfl : l = [] := List.length_eq_zero_iff.1 hn.symm
    exact concat_none N s p a w hs

set_option maxHeartbeats 6400000 in
set_option maxRecDepth 100000 in
theorem grown_any (N n p : Nat) (a : Option Addr) (l : List Stp) (w : World) (hx : PthSeg (fun b => b < N) w (.slice a n p) l) (hN : N ≤ w.heap.size) (hp : pathB l = true) :
    Calls Tryz.prog 45 #[.slice a n p, .slice none 0 0] w fun e w' => ∃ va vn vc, e = .returned (.slice va vn vc) ∧ Below w.heap.size w w' := by
  obtain ⟨i0, hi0, hz0, hz1, hz2⟩ := info_parts infoP
  obtain ⟨_, _, e1, q1, q2, _⟩ := id hx
  simp only [Value.slice.injEq] at e1
  obtain ⟨-, hn, rfl⟩ := e1
  have hp' : l.length ≤ 6 ∧ l.all stpB = true := by unfold pathB at hp; simpa using hp
  have h6 : n ≤ 6 := by omega
  have HA1 : Hid (∀ o : Obj, Below w.heap.size w (w.alloc o)) := fun o => (Below.refl _ _).alloc (Nat.le_refl _) o
  have HC : Hid (∀ o : Obj, o = .cells #[.slice a n p, .slice none 0 0] 32 → Calls Tryz.prog 64 #[.slice (some ⟨w.heap.size, 0, none⟩) 2 2] (w.alloc o) (CatEnd N n l (w.alloc o))) := fun o e => by
    subst e
    exact concat_any N w.heap.size n p a l _ (MapKept.heap_alloc w _).1 (hx.agree (agree_below ((HA1.out _).mono hN))) (by have := (HA1.out (.cells #[.slice a n p, .slice none 0 0] 32)).size; omega) h6
  have HAll := hide' hp'.2
  have Hn := hide' hn
  clear hp hp' hx q1 q2 hn
  go_enter Tryz.func45, Tryz.ntmps45
  go_wp2_with fail
  refine (HC.out _ rfl).mono ?_
  rintro e w1 ⟨v, cs, rfl, hO, hCs, b1⟩
  have B1 := hide' (Below.on (HA1.out _) b1)
  obtain ⟨va, vc, rfl⟩ : ∃ a c, v = .slice a n c := by
    rcases hO.2 with ⟨rfl, rfl⟩ | ⟨g, cap, cur, rfl, _⟩
    · exact ⟨_, _, rfl⟩
    · exact ⟨_, _, rfl⟩
  have HO := hide' hO
  have HS : Hid (∀ (k : Nat) (hk : k < l.length), ∃ c0 c1 c2, cs[k * 3]? = some c0 ∧ cs[k * 3 + 1]? = some c1 ∧ cs[k * 3 + 2]? = some c2 ∧ StSeg (fun b => b < N) w1 (c0, c1, c2) l[k]) := fun k hk => by
    obtain ⟨c0, c1, c2, e0, e1, e2, h3⟩ := hCs k hk
    exact ⟨c0, c1, c2, e0, e1, e2, h3.agree (fun b hb => b1.block b (by have := (HA1.out (.cells #[.slice a n p, .slice none 0 0] 32)).size; omega))⟩
  have hz1w := b1.size
  have hNw1 : N ≤ w1.heap.size := by have := B1.out.size; omega
  clear hO hCs b1 HC
  go_wp2
  go_loopw [5, 13] (fun x i wr => ∃ k : Nat, k ≤ n ∧ i = .int .i64 k ∧ Hid (∃ xs, wr.ownsRow w1.heap.size 70 3 x k xs ∧ Below w1.heap.size w1 wr)) (fun _ i _ => n - (intOf i).toNat)
  case atStart => exact ⟨0, Nat.zero_le _, rfl, [], World.ownsRow_nil _ _ _ _, Below.refl _ _⟩
  case round =>
    obtain ⟨k, hk, rfl, hR⟩ := hrel
    obtain ⟨xs, hrow, hbel⟩ := hR.out
    obtain ⟨xa, xc, rfl⟩ : ∃ a c, u5 = .slice a k c := by
      rcases hrow.2 with ⟨rfl, rfl⟩ | ⟨g, cap, cur, rfl, _⟩
      · exact ⟨_, _, rfl⟩
      · exact ⟨_, _, rfl⟩
    by_cases hlt : k < n
    · have hlt' : (k : Int) < (n : Int) := by omega
      have hkl : k < l.length := by have := Hn.out; omega
      obtain ⟨g, gc, ev, hg1, _, hcell⟩ := row_cells HO.out (by omega)
      simp only [Value.slice.injEq, true_and] at ev
      obtain ⟨rfl, rfl⟩ := ev
      obtain ⟨c0, c1, c2, e0, e1, e2, ⟨s0, st, s2⟩⟩ := HS.out k hkl
      simp only at s0 s2 st
      subst s0 s2
      have hlen := key_short (all_at HAll.out hkl)
      obtain ⟨ka, kp, rfl, sg, hk1, hk2, hk3, _⟩ := st
      have r0 : wr.cell? ⟨g, k * 3, none⟩ = _ := (World.cell?_of_block (a := ⟨g, k * 3, none⟩) (hbel.block g hg1)).trans (hcell _ _ e0)
      have r1 : wr.cell? ⟨g, k * 3 + 1, none⟩ = _ := (World.cell?_of_block (a := ⟨g, k * 3 + 1, none⟩) (hbel.block g hg1)).trans (hcell _ _ e1)
      have r2 : wr.cell? ⟨g, k * 3 + 2, none⟩ = _ := (World.cell?_of_block (a := ⟨g, k * 3 + 2, none⟩) (hbel.block g hg1)).trans (hcell _ _ e2)
      generalize (l[k]).1 = kk at *
      generalize (l[k]).2.2 = ki at *
      have sgr := hide' (sg.grow hbel)
      generalize (l[k]).2.1 = ss at *
      generalize hsl : ss.length = sl at *
      have Hsl := hide' hsl
      have hbox : Hid (∀ w6, (wr.alloc (.cells #[.int .i64 kk, .slice ka sl kp, .int .i64 ki] 70)).grownBy w6 none → w6.heap[wr.heap.size]? = some (.cells #[.int .i64 kk, .slice ka sl kp, .int .i64 ki] 70 (0, 0))) := fun w6 h => (h.block wr.heap.size (by simp) (by simp)).trans (MapKept.heap_alloc wr _).1
      have HA : Hid (Below wr.heap.size wr (wr.alloc (.cells #[.int .i64 kk, .slice ka sl kp, .int .i64 ki] 70))) := (Below.refl _ _).alloc (Nat.le_refl _) _
      have hseg := hide' (sgr.out.grow HA.out)
      have hsz1 : wr.heap.size ≤ (wr.alloc (.cells #[.int .i64 kk, .slice ka sl kp, .int .i64 ki] 70)).heap.size := HA.out.size
      have HRow : Hid (∀ w6 v6, (wr.alloc (.cells #[.int .i64 kk, .slice ka sl kp, .int .i64 ki] 70)).grownBy w6 none → (w6.setCell ⟨wr.heap.size, 1, none⟩ v6).ownsRow w1.heap.size 70 3 (.slice xa k xc) k xs ∧ Below w1.heap.size w1 (w6.setCell ⟨wr.heap.size, 1, none⟩ v6) ∧ w1.heap.size ≤ (w6.setCell ⟨wr.heap.size, 1, none⟩ v6).heap.size) := fun w6 v6 hg => by
        have t1 := World.ownsRow.alloc hrow (.cells #[.int .i64 kk, .slice ka sl kp, .int .i64 ki] 70)
        have t2 := World.ownsRow.kept t1 hg (by cases (Value.slice xa k xc).ownBlock <;> simp)
        have gS := grown1 w6 wr.heap.size 1 v6
        have t3 := World.ownsRow.kept t2 gS (by
          cases hv : (Value.slice xa k xc).ownBlock with
          | none => simp
          | some b => right; intro e; have := (hrow.lt b hv).2; simp at e; omega)
        have z1 := hbel.size
        have b2 : Below w1.heap.size w1 w6 := (hbel.trans (HA.out.mono hbel.size)).grown hg (by have := HA.out.size; omega) (fun k hk => by simp at hk)
        have b3 := b2.grown gS b2.size (fun j hj => by simp at hj; omega)
        exact ⟨t3, b3, b3.size⟩
      have HNext : Hid (∀ w5 w6 xs' v, w5.ownsRow w1.heap.size 70 3 (.slice xa k xc) k xs → Below w1.heap.size w1 w5 → w6.ownsRow w1.heap.size 70 3 v (k + 1) xs' → w5.grownBy w6 (Value.slice xa k xc).ownBlock → ∃ ys, w6.ownsRow w1.heap.size 70 3 v (k + 1) ys ∧ Below w1.heap.size w1 w6) := fun w5 w6 xs' v h1 h2 h3 h4 => ⟨_, h3, h2.grown h4 h2.size (fun j hj => (h1.lt j hj).1)⟩
      clear hrow hbel hcell e0 e1 e2 sg hR HS hsl sgr
      go_wp2_with (at_builtin; first
        | (refine wpList_append_seg rfl (.const (.slice none 0 0)) (.tmp 18) (by rfl) (wr.heap.size) (.slice none 0 0) [] ss (by rfl) (bts_nil _ _) ka sl kp Hsl.out.symm (by rfl) hseg.out hk3 (by have := Hsl.out; simp; omega) hsz1 ?_; intro v6 w6 hB6 hg6; obtain ⟨ya, yc, rfl, _⟩ := hB6.shape; obtain ⟨y0, y1, y2, yf⟩ := row3 (hbox.out w6 hg6); have yf1 := yf 1; have hRw := hide' (HRow.out w6 (.slice ya (([] : List Int) ++ ss).length yc) hg6); clear hB6 hg6 yf; simp only [List.nil_append] at hRw ⊢; generalize ss.length = yl at *)
        | (refine wpList_append_lies _ rfl (.tmp 21) (.tmp 23) 32 (by rfl) w1.heap.size 70 i0 _ 3 40 Tryz.underlying32 hi0 hz0 hz1 hz2 rfl (by decide) (.slice xa k xc) k xs (by rfl) (hRw.out.1.alloc _) ⟨w6.heap.size, 0, none⟩ 1 1 [.int .i64 kk, .slice ya yl yc, .int .i64 ki] (by rfl) (by rfl) (World.news_of_block (cs := #[.int .i64 kk, .slice ya yl yc, .int .i64 ki]) (t := 70) (fr := (0, 0)) (by have := heap_alloc_new (w6.setCell ⟨wr.heap.size, 1, none⟩ (.slice ya yl yc)) (.cells #[.int .i64 kk, .slice ya yl yc, .int .i64 ki] 70); rw [show (w6.setCell ⟨wr.heap.size, 1, none⟩ (.slice ya yl yc)).heap.size = w6.heap.size from (by simp [World.setCell])] at this; exact this)) (by simp [Value.oneCell']) (by omega) (by unfold maxLen; omega) (by omega) (Nat.le_trans hRw.out.2.2 (by simp)) _ rfl ?_; intro g7 cp7 w7 hown7 hg7 hat7 hlt7; have hN7 := hide' (HNext.out _ w7 _ _ (hRw.out.1.alloc _) (hRw.out.2.1.alloc hRw.out.2.2 _) hown7 hg7); clear hown7 hg7 hat7 hlt7))
      go_wp2
      go_roundw
      case rel => exact ⟨k + 1, by omega, by go_num, hN7⟩
      case measure => simp [intOf]; omega
    · have hlt' : ¬ (k : Int) < (n : Int) := by omega
      have BF := hide' (Below.on B1.out hbel)
      clear hrow hbel hR
      go_wp2
      go_ret
      exact ⟨by simp, BF.out⟩
end Go.Proofs.YtdhlmcgbgdljmaaGreatDoor
