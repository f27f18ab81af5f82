/-
  For every event the law FnExactEventText returns true, and the event reads behind the call as it read before it: EventText answers as the specification's EventText, in memory of its own. Condition: the program's two tables of words and seven package variables of Go's library begin as the program's text lays them (the card ties them).
-/
import Derived.SevenTiedAt
import Derived.Stop.Joined
import Derived.MakeChecks
import Derived.Lay
import Derived.LaidMore
import Derived.Test.YtfojpencmkmdfaaGreatDoorPk2
import Derived.Test.YtfojpencmkmdfaaGreatDoorPk25
import Derived.ChangeVars
import Derived.Lib.LaidTab
import Derived.Test.YtfojpencmkmdfaaGreatDoorPk26
import Derived.Test.YtfojpencmkmdfaaGreatDoorTie
import Derived.Test.YtfojpencmkmdfaaGreatDoorCards
import Derived.Test.YtfojpencmkmdfaaGreatDoorRows
import Derived.WalkKit
import Derived.ProofKit
import Derived.OpenShut
import Derived.ShutString
import Derived.ChangeOld
import Derived.Below
namespace Go.Proofs.YtfojpencmkmdfaaGreatDoor.fnExactEventText
open Go.ChangeShapes Go.WideShapes Go.ChangeAt Go.RowKit
open Go.ChangeMaps (open_string shut_string)
set_option linter.unusedVariables false

theorem own : ownKnob Tryz.prog.godebug = none := by kernel_rfl
theorem laidOut : laidOutB Tryz.prog = true := by kernel_rfl

theorem door_met (os : Os) (args : Array Value) : laidMetH Tryz.prog Rows.fnExactEventTextRow.laid ((World.laidAll Tryz.prog os Rows.fnExactEventTextRow.laid).forCall (fun _ _ => 0) ⟨#[], args, []⟩).memory :=
  by rw [MakeChecks.laidMetH_plain _ _ _ (by kernel_rfl)]; exact laidMet_laidAll _ (by kernel_rfl) (by kernel_rfl)

theorem var?_below {P : Program} {B g : Nat} {W W' : World} {n : String} {cs : Array Value} (h : Below B W W') (hg : P.globalNamed n = some g) (hgB : g < B) (hv : W.var? P n = some cs) : W'.var? P n = some cs := by
  unfold World.var? at hv ⊢
  simp only [hg, Option.bind_some] at hv ⊢
  rw [h.block g hgB]
  exact hv

set_option maxRecDepth 100000 in
theorem lifted (os : Os) (started : os.Started) (H : Type) (enc : TypeId × Value → H) :
    ReturnsInHanded {} Tryz.checked os 3 .any (fun w args => (Rows.fnExactEventTextSpec.pre enc Tryz.prog Tryz.f3 [] false w args ∧ laidMetH Tryz.prog Rows.fnExactEventTextRow.laid w) ∧ sizedMet enc Tryz.prog Tryz.f3 (OpenSpec.ofChange Rows.fnExactEventTextSpec) false w args) (Rows.fnExactEventTextSpec.post enc Tryz.prog Tryz.f3 false true false false) := by
  refine returnsInHanded_of_change_and (C := Tryz.checked) (X := fun w _ => laidMetH Tryz.prog Rows.fnExactEventTextRow.laid w) (fun _ _ _ hh h => h.of_heap hh) own started (by kernel_rfl) Tryz.func3
    (ChangeSpec.witness_shaped (enc := enc) (C := Tryz.checked) (os := os) (X := fun w _ => laidMetH Tryz.prog Rows.fnExactEventTextRow.laid w) false (World.laidAll Tryz.prog os Rows.fnExactEventTextRow.laid) #[.agg #[.int .i64 0, .slice none 0 0, .int .i64 0, .int .i64 0, .int .i64 0, .slice none 0 0, .slice none 0 0, .slice none 0 0, .slice none 0 0]] 8 (World.laidAll_os _ _ _) (World.shaped_of_ZipB (by kernel_rfl) (by kernel_rfl)) (by kernel_rfl) (by kernel_rfl) (by kernel_rfl) (door_met os _)) ?_
  intro W base args ds gs before hval0 hW _ _ hL _
  have hW' := hW
  obtain ⟨p, q, hA0, hV0, rfl, hfz, hnd⟩ := hW
  have hV : DataW.TrodVars enc Tryz.prog W (fun _ => true) ["loop.example/g00407/impl.eventWords", "loop.example/g00407/impl.actWords"] gs q := hV0
  have hA : DataW.TrodAll enc Tryz.prog W 0 (fun _ => true) true Tryz.f3.params.toList args.toList ds p := hA0
  rw [Tryz.params3] at hA
  obtain ⟨v0, vs0, d0, ds0, p0, q0, hargs, rfl, rfl, h0, r0⟩ := trodAll_cons hA
  obtain ⟨rfl, rfl, rfl⟩ := trodAll_nil r0
  obtain rfl : args = #[v0] := by cases args; simp_all
  cases gs with
  | nil => simp [DataW.TrodVars] at hV
  | cons dv1 dr =>
  obtain ⟨g1, t1, cs1, fu1, pv1, qv, hg1, ht1, hvar1, hd1, hV2, rfl⟩ := hV
  obtain ⟨g2, t2, cs2, fu2, dv2, pv2, rfl, hg2, ht2, hvar2, hd2, rfl⟩ := trodVars_one hV2
  have k0 := h0
  have lt0 : ∀ x ∈ p0, x.block < W.heap.size := by obtain ⟨m, hm⟩ := k0; exact DataW.trod_lt m _ _ _ hm
  obtain ⟨d, cs, it, rfl, hx⟩ := read_event_arg h0
  clear hA0 hval0
  rw [MakeChecks.laidMetH_plain _ _ _ (by kernel_rfl)] at hL
  have hT : WrdT W := wrd_of_laid hL.tail.tail.tail.tail.tail.tail
  have hL3 : laidMet Tryz.prog (("internal/strconv.uint64pow10", Lib.tabData .u64 Lib.pow10Tab) :: _) W := hL.tail.tail
  have htab : Lib.TabIs Tryz.prog W "internal/strconv.uint64pow10" .u64 Lib.pow10Tab := Lib.tabIs_of_head (g := 3) (t := 181) (n := 20) (e := 127) (by kernel_rfl) (by kernel_rfl) (by kernel_rfl) (by kernel_rfl) (by kernel_rfl) (by kernel_rfl) hL3
  have hgs1 : Tryz.prog.globalNamed "loop.example/g00407/impl.eventWords" = some 0 := by kernel_rfl
  have hgs2 : Tryz.prog.globalNamed "loop.example/g00407/impl.actWords" = some 1 := by kernel_rfl
  obtain rfl := Option.some.inj (hgs1.symm.trans hg1)
  obtain rfl := Option.some.inj (hgs2.symm.trans hg2)
  have hty1 : (Tryz.prog.globals[0]?).map (·.type) = some 76 := by kernel_rfl
  have hty2 : (Tryz.prog.globals[1]?).map (·.type) = some 78 := by kernel_rfl
  obtain rfl := Option.some.inj (hty1.symm.trans ht1)
  obtain rfl := Option.some.inj (hty2.symm.trans ht2)
  have hlt1 : ∀ x ∈ pv1, x.block < W.heap.size := fun x hx => hW'.lt x (List.mem_append_right _ (List.mem_append_left _ (List.mem_append_right _ hx)))
  have hlt2 : ∀ x ∈ pv2, x.block < W.heap.size := fun x hx => hW'.lt x (List.mem_append_right _ (List.mem_append_right _ (List.mem_append_right _ hx)))
  refine (walk_FnExactEventText (d := d) (it := it) cs.toArray W (errs_of_laid hL.tail.tail.tail.tail) hT (Lib.tabBelow_of_tabIs htab) hx).mono fun e W' ⟨he, bel⟩ => ?_
  subst he
  obtain ⟨fu1', hd1'⟩ := Below.trod laidOut (by kernel_rfl) (of_decide_eq_true (by kernel_rfl)) (v := .agg cs1) (⟨fu1, by simpa [Value.cells] using hd1⟩ : DataW.Trod enc Tryz.prog W 0 (fun _ => true) true 76 (.agg cs1) dv1 pv1) bel hlt1
  obtain ⟨fu2', hd2'⟩ := Below.trod laidOut (by kernel_rfl) (of_decide_eq_true (by kernel_rfl)) (v := .agg cs2) (⟨fu2, by simpa [Value.cells] using hd2⟩ : DataW.Trod enc Tryz.prog W 0 (fun _ => true) true 78 (.agg cs2) dv2 pv2) bel hlt2
  have hv2' := trodVars_mk1 (enc := enc) (spare := fun b => decide (b < W.heap.size)) hg2 ht2 (var?_below bel hg2 hT.lt2 hvar2) (by simpa [Value.cells] using hd2')
  have hv' : DataW.TrodVars enc Tryz.prog W' (fun b => decide (b < W.heap.size)) ["loop.example/g00407/impl.eventWords", "loop.example/g00407/impl.actWords"] [dv1, dv2] _ := ⟨_, _, cs1, fu1', _, _, hg1, ht1, var?_below bel hg1 hT.lt hvar1, by simpa [Value.cells] using hd1', hv2', rfl⟩
  exact ⟨_, rfl, _, _, _, [], _, _, hW', trodAll_mk1 (shut_bool Tryz.underlying4 _), (trodAll_cons_mk (Below.trod laidOut (by kernel_rfl) (of_decide_eq_true (by kernel_rfl)) k0 bel lt0) trodAll_mk0), hv', bel.frame _, fun h => by cases h⟩

theorem over : Rows.fnExactEventTextRow.holds Tryz.pinned (OpenSpec.ofChange Rows.fnExactEventTextSpec) :=
  OpenClaim.holds_of_wide 3 Tryz.f3 rfl rfl rfl rfl rfl rfl rfl ⟨rfl, rfl, rfl, rfl, rfl⟩ rfl rfl rfl rfl rfl (by kernel_rfl) Tryz.func3 (by kernel_rfl)
    (of_decide_eq_true (by kernel_rfl)) (by unfold Func.isWrapper; first | (rw [if_pos (by decide +kernel)]; kernel_rfl) | (rw [if_neg (by decide +kernel)]; exact ⟨rfl, rfl⟩))
    (fun os started H enc _ => lifted os started H enc)

theorem proved : Rows.FnExactEventTextSaid := over
end Go.Proofs.YtfojpencmkmdfaaGreatDoor.fnExactEventText
namespace Go.Proofs.YtfojpencmkmdfaaGreatDoor
open Go
theorem fnExactEventText_row : Rows.FnExactEventTextSaid := fnExactEventText.proved
theorem fnExactEventText_holds : Rows.FnExactEventTextCardSaid :=
  Claim7.holds_tied_plain_at .later [] [.data, .data, .data, .data, .sentinel, .sentinel, .data, .data, .pinned] true (true, "697fd51d6892eae198773f187ab84ca98aa86cdd4d5def2182364a7fa92c7625") true
    fnExactEventText_row (fun _ h => by cases h) (by kernel_rfl) (fun _ h => by cases h) fnExactEventText_row_tie rfl ⟨rfl, rfl⟩ (by kernel_rfl) rfl
    (fun f fn hf hfn => by
      obtain rfl : f = 3 := Option.some.inj ((show Tryz.prog.funcNamed "loop.example/g00407/laws.FnExactEventText" = some 3 by kernel_rfl).symm.trans hf) |>.symm
      obtain rfl : fn = Tryz.f3 := (Option.some.inj (Tryz.func3.symm.trans hfn)).symm
      exact ⟨by kernel_rfl, fun j t ht => by
        rw [Tryz.params3] at ht
        have hm : t ∈ [28] := by simpa using Array.mem_of_getElem? ht
        have hall : ([28].all fun u => !Tryz.prog.wantsStandIn u) = true := by kernel_rfl
        exact (show Tryz.prog.wantsStandIn t = false by simpa using List.all_eq_true.1 hall t hm)⟩)
    (by kernel_rfl)
end Go.Proofs.YtfojpencmkmdfaaGreatDoor
