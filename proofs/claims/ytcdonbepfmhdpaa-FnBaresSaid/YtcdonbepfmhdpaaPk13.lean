/-
  Texts that a law leans on, one behind the other; no statement is proved here.
-/
import Derived.Test.YtcdonbepfmhdpaaPk12
import Derived.Deep.AppendLies
import Derived.Test.YtcdonbepfmhdpaaPk7
import Derived.Test.YtcdonbepfmhdpaaPk6
/-
  tellable of the program: the vertices that can be told, in order.
-/
namespace Go.Proofs.Ytcdonbepfmhdpaa
open Go.RowKit Go.Shelf
set_option linter.unusedVariables false
set_option linter.unusedSimpArgs false

/-- How long a slice is. -/
def lenOf : Value → Nat
  | .slice _ l _ => l
  | _ => 0

set_option maxHeartbeats 12800000 in
set_option maxRecDepth 100000 in
theorem tellable_any (N n : Nat) (x : Value) (E : List Edg) (w : World) (hx : ESeg (fun b => b < N) w x E) (hN : N ≤ w.heap.size) (hn : n ≤ 20) (hel : E.length ≤ 400) (hE : InG n E) :
    Calls Try.prog 20 #[.agg #[.int .i64 (n : Int), x]] w fun e w' => ∃ u, e = .returned u ∧ NOwn w' w.heap.size u (ordR n E) ∧ Below w.heap.size w w' := by
  have HX : Hid (∀ wx, Below w.heap.size w wx → ESeg (fun b => b < N) wx x E) := fun wx hb => hx.agree (agree_below (hb.mono hN))
  have HE := hide' hE
  obtain ⟨a, cap, rfl, hlc, hcm, -, -⟩ := hx
  unfold maxLen at hcm
  obtain ⟨i3, hi3, hy0, hy1, hy2⟩ := info_parts infoI
  have hnn : (0 : Int) ≤ (n : Int) := by omega
  have hn20 : (n : Int) ≤ 20 := by omega
  clear hE
  go_enter Try.func20, Try.ntmps20
  go_wp2_with (refine wpList_make_full _ rfl _ _ 27 rfl (w.heap.size + 1) 3 i3 (.int .i64 0) 1 Try.underlying27 hi3 hy0 hy1 .i64 .i64 _ _ n rfl rfl rfl rfl (by rw [hy2]; omega) (by unfold maxLen; omega) (by simp) ?_; intro w1 hown hgrow; have hS0 := hide' (vSt_made (V := Value.int .i64) (z := (0 : Int)) rfl hown hgrow); obtain ⟨y0, y1, -⟩ := row2 hS0.out.2.1; clear hown hgrow)
  have hsz0 : (w.alloc (.cells #[.int .i64 (n : Int), .slice a E.length cap] 25)).heap.size = w.heap.size + 1 := by simp
  (try rw [hsz0])
  have hS1 : Hid (VSt (Value.int .i64) 3 w (.cells #[.int .i64 (n : Int), .slice a E.length cap] 25) (rowL n (inN (E.take 0))) w1) := by
    have := hS0.out
    rw [← rowL_zero] at this
    rw [rowL_same (f := fun _ => 0) (fun t => by simp [inN])]
    exact this
  clear hS0
  go_wp2_with fail
  go_loopw [19] (fun i wz => ∃ j : Nat, i = .int .i64 j ∧ j ≤ E.length ∧ Hid (VSt (Value.int .i64) 3 w (.cells #[.int .i64 (n : Int), .slice a E.length cap] 25) (rowL n (inN (E.take j))) wz)) (fun i _ => E.length - (intOf i).toNat)
  case atStart => exact ⟨0, rfl, Nat.zero_le _, hS1⟩
  case round =>
    clear hS1 y0 y1
    obtain ⟨j, rfl, hj, hS⟩ := hrel
    by_cases hjl : j < E.length
    · have hjl' : (j : Int) < (E.length : Int) := by omega
      obtain ⟨b, off, rfl, _, q0, q1⟩ := (HX.out wr hS.out.2.2.1).at hjl
      have he := HE.out E[j] (List.getElem_mem hjl)
      obtain ⟨m1, hm'⟩ : ∃ m : Nat, E[j].2 = (m : Int) := ⟨E[j].2.toNat, by omega⟩
      have hle := inN_le (E.take j) m1
      have hle2 : (E.take j).length ≤ 400 := by simp; omega
      have hs : rowL n (inN (E.take (j + 1))) = (rowL n (inN (E.take j))).set m1 ((inN (E.take j) m1 : Int) + 1) := rowL_set (by rw [inN_succ E m1 j hjl, if_pos hm']; simp) (fun t ht => by rw [inN_succ E t j hjl, if_neg (by omega)]; rfl)
      have hS' := hS.out.alloc (.cells #[.int .i64 E[j].1, .int .i64 (m1 : Int)] 36)
      obtain ⟨t0, t1⟩ := hS'.1.at (m := m1) (by rw [rowL_len]; omega) 0
      rw [rowL_at (by omega)] at t0
      have HN := hide' (hS'.set m1 ((inN (E.take j) m1 : Int) + 1))
      rw [← hs] at HN
      rw [hm'] at q1
      have hm3 : (0 : Int) ≤ (m1 : Int) := by omega
      have hm4 : (m1 : Int) < (n : Int) := by omega
      have hw0 : (0 : Int) ≤ (inN (E.take j) m1 : Int) := by omega
      have hw1 : IntKind.i64.wrap ((inN (E.take j) m1 : Int) + 1) = (inN (E.take j) m1 : Int) + 1 := by rw [IntKind.wrap_i64]; omega
      clear hS hS' hm' hs he hle hle2
      generalize (inN (E.take j) m1 : Int) = c1 at *
      generalize E[j].1 = ef at *
      go_wp2
      go_roundw
      case rel => exact ⟨j + 1, by go_num, by omega, HN⟩
      case measure => simp [intOf]; omega
    · have hjl' : ¬ (j : Int) < (E.length : Int) := by omega
      obtain rfl : j = E.length := by omega
      rw [List.take_length] at hS
      have hT0 : Hid (TSt w (.cells #[.int .i64 (n : Int), .slice a E.length cap] 25) wr.heap.size (rowL n (inN E)) (.slice none 0 0) [] (wr.heap.size + 1) [] ((wr.alloc (.cells #[] 3)).alloc (.cells #[.slice (some ⟨wr.heap.size, 0, none⟩) 0 0] 68)) ∧ TelI E 0 []) := by
        have hSa := (hS.out.alloc (.cells #[] 3)).alloc (.cells #[.slice (some ⟨wr.heap.size, 0, none⟩) 0 0] 68)
        obtain ⟨k1, k2⟩ := two_boxes wr (.cells #[] 3) (.cells #[.slice (some ⟨wr.heap.size, 0, none⟩) 0 0] 68)
        refine ⟨⟨hSa.1, hSa.2.1, hSa.2.2.1, ⟨by have := hS.out.2.2.2; omega, by simp; omega⟩, NOwn.nil _ _, .slice (some ⟨wr.heap.size, 0, none⟩) 0 0, ?_⟩, telI_nil E⟩
        refine ⟨k2, ⟨rfl, .inr ⟨wr.heap.size, 0, #[], rfl, Nat.zero_le _, k1, Nat.le_refl _, Nat.zero_le _, rfl, rfl⟩⟩, fun b hb => ?_, ?_, fun b hb => ?_⟩
        · simp [Value.ownBlock] at hb
          subst hb
          refine ⟨fun hr => ?_, by omega⟩
          rcases hr with hr | hr
          · omega
          · simp [Value.ownBlock] at hr
        · intro hr
          rcases hr with hr | hr
          · omega
          · simp [Value.ownBlock] at hr
        · rcases hb with hb | hb
          · simp; omega
          · simp [Value.ownBlock] at hb
      clear hS
      go_wp2_with fail
      generalize (wr.alloc (.cells #[] 3)).alloc (.cells #[.slice (some ⟨wr.heap.size, 0, none⟩) 0 0] 68) = w2 at *
      generalize wr.heap.size = B0 at *
      go_loopw [35] (fun i wz => ∃ (k : Nat) (H : List Int), i = .int .i64 (k : Int) ∧ k ≤ n ∧ Hid (TSt w (.cells #[.int .i64 (n : Int), .slice a E.length cap] 25) B0 (rowL n (inN E)) (.slice none 0 0) [] (B0 + 1) H wz ∧ TelI E k H)) (fun i _ => n - (intOf i).toNat)
      case atStart => exact ⟨0, [], rfl, Nat.zero_le _, hT0⟩
      case round =>
        clear hT0
        obtain ⟨k, H, rfl, hk, hS⟩ := hrel
        by_cases hkn : k < n
        · have hkn' : (k : Int) < (n : Int) := by omega
          obtain ⟨t0, -⟩ := hS.out.1.1.at (m := k) (by rw [rowL_len]; omega) 0
          rw [rowL_at hkn] at t0
          by_cases hz : inN E k = 0
          · rw [hz] at t0
            have HPu : Hid (Calls Try.prog 39 #[.iface 67 (.pointer (some ⟨B0 + 1, 0, none⟩)), .iface 3 (.int .i64 (k : Int))] wr fun e w' => e = .returned (.tuple #[]) ∧ ∃ H', Hid (TSt w (.cells #[.int .i64 (n : Int), .slice a E.length cap] 25) B0 (rowL n (inN E)) (.slice none 0 0) [] (B0 + 1) H' w' ∧ TelI E (k + 1) H')) := by
              obtain ⟨u, hu⟩ := hS.out.1.2.2.2.2.2
              refine (push_any _ _ u H (k : Int) wr hu (by have := hS.out.2.len; omega) hS.out.2.heap).mono ?_
              rintro e w' ⟨rfl, u', H', k1, k2, k3, k4⟩
              exact ⟨rfl, H', hS.out.1.fr k1 k4, hS.out.2.push hz k2 k3⟩
            clear hS hz
            go_wp2_with fail
            refine HPu.out.mono ?_
            rintro e w3 ⟨rfl, H', hF⟩
            go_wp2
            go_roundw
            case rel => exact ⟨k + 1, H', by go_num, by omega, hF⟩
            case measure => simp [intOf]; omega
          · have hz' : ((inN E k : Int) == 0) = false := by simpa using hz
            have HN : Hid (TSt w (.cells #[.int .i64 (n : Int), .slice a E.length cap] 25) B0 (rowL n (inN E)) (.slice none 0 0) [] (B0 + 1) H wr ∧ TelI E (k + 1) H) := ⟨hS.out.1, hS.out.2.skip hz⟩
            clear hS hz
            generalize (inN E k : Int) = c1 at *
            go_wp2
            go_roundw
            case rel => exact ⟨k + 1, H, by go_num, by omega, HN⟩
            case measure => simp [intOf]; omega
        · have hkn' : ¬ (k : Int) < (n : Int) := by omega
          obtain rfl : k = n := by omega
          have hT1 : Hid (TSt w (.cells #[.int .i64 (k : Int), .slice a E.length cap] 25) B0 (rowL k (wN E (List.replicate k false))) (.slice none 0 0) [] (B0 + 1) H wr ∧ Tel k E (List.replicate k false) [] H) := by
            refine ⟨?_, hS.out.2.full⟩
            rw [rowL_same (f := inN E) (fun t => wN_none E k t)]
            exact hS.out.1
          clear hS
          go_wp2_with fail
          go_loopw [9] (fun uo wz => ∃ (dn : List Bool) (out H : List Int), Hid (TSt w (.cells #[.int .i64 (k : Int), .slice a E.length cap] 25) B0 (rowL k (wN E dn)) uo out (B0 + 1) H wz ∧ Tel k E dn out H)) (fun uo _ => k - lenOf uo)
          case atStart => exact ⟨_, _, _, hT1⟩
          case round =>
            clear hT1
            obtain ⟨dn, out, H, hS⟩ := hrel
            obtain ⟨u, hu⟩ := hS.out.1.2.2.2.2.2
            have c0 := hu.cell.1
            obtain ⟨ha, hc, rfl⟩ := hu.2.1.form
            obtain ⟨ua, uc, rfl⟩ := hS.out.1.2.2.2.2.1.form
            have hsm := hS.out.2.small
            have HLn : Hid (Calls Try.prog 40 #[.slice ha H.length hc] wr fun e w' => e = .returned (.int .i64 (H.length : Int)) ∧ wr = w') := len_any _ _ _ wr
            by_cases hH0 : H.length = 0
            · have hHn : H = [] := List.length_eq_zero_iff.1 hH0
              have HE1 : Hid (NOwn wr w.heap.size (.slice ua out.length uc) (ordR k E) ∧ Below w.heap.size w wr) := by
                subst hHn
                rw [← hS.out.2.done]
                exact ⟨hS.out.1.2.2.2.2.1.down (by have := hS.out.1.2.2.2.1.1; omega), hS.out.1.2.2.1⟩
              rw [hH0] at c0 HLn
              clear hS hu hHn
              generalize out.length = ol at *
              go_wp2_with fail
              refine HLn.out.mono ?_
              rintro e w3 ⟨rfl, e3⟩
              obtain rfl := e3
              go_wp2
              go_ret
              exact ⟨_, rfl, HE1.out⟩
            · obtain ⟨q, hq⟩ : ∃ q, H.length = q + 1 := ⟨H.length - 1, by omega⟩
              have hpos : (0 : Int) < (H.length : Int) := by omega
              have HPo : Hid (Calls Try.prog 41 #[.iface 67 (.pointer (some ⟨B0 + 1, 0, none⟩))] wr fun e w' => ∃ v : Nat, e = .returned (.iface 3 (.int .i64 (v : Int))) ∧ ∃ H', Hid (TSt w (.cells #[.int .i64 (k : Int), .slice a E.length cap] 25) B0 (rowL k (wJ E dn (v : Int) 0)) (.slice ua out.length uc) out (B0 + 1) H' w' ∧ TelJ k E dn v 0 H') ∧ Hid (v < k ∧ bAt dn (v : Int) = false ∧ wN E dn v = 0 ∧ ordD E k (k + 1 - (out ++ [(v : Int)]).length) (bSet dn (v : Int)) (out ++ [(v : Int)]) = ordR k E ∧ out.length < k ∧ (out ++ [(v : Int)]).length = cntB (bSet dn (v : Int)) ∧ (∀ e ∈ E, bAt (bSet dn (v : Int)) e.2 = true → bAt (bSet dn (v : Int)) e.1 = true) ∧ dn.length = k ∧ ∀ e ∈ E, bAt dn e.2 = true → bAt dn e.1 = true)) := by
                refine (pop_any _ _ _ H q wr hu hq (by omega) hS.out.2.heap).mono ?_
                rintro e w' ⟨rfl, u', H', k1, k2, k3, k4⟩
                obtain ⟨v, g1, g2, g3, g4, g5, g6, g7, g8, g9⟩ := hS.out.2.pop HE.out (by omega) k2 k3
                refine ⟨v, by rw [g1], H', ⟨?_, g5⟩, g2, g3, g4, g6, g7, g8, g9, hS.out.2.len, hS.out.2.clo⟩
                rw [rowL_same (f := wN E dn) (fun t => wJ_zero E dn (v : Int) t)]
                exact hS.out.1.fr k1 k4
              have hta := fun (v : Nat) wx => ta_int (.int .i64 (v : Int)) wx
              have hol : out.length ≤ 20 := by omega
              clear hS hu hq
              generalize H.length = hl at *
              go_wp2_with fail
              refine HLn.out.mono ?_
              rintro e w3 ⟨rfl, e3⟩
              obtain rfl := e3
              clear HLn
              go_wp2_with fail
              refine HPo.out.mono ?_
              rintro e w4 ⟨v, rfl, H', hT, hV⟩
              clear HPo c0
              have HOw : Hid (∀ o, (w4.alloc o).ownsRow B0 3 1 (.slice ua out.length uc) out.length (iC out)) := fun o => World.ownsRow.alloc hT.out.1.2.2.2.2.1 o
              have hB04 : B0 ≤ w4.heap.size := hT.out.1.2.2.2.1.2
              have HAd : Hid (∀ o1 g cp w6, w6.ownsRow B0 3 1 (.slice (some ⟨g, 0, none⟩) (out.length + 1) cp) (out.length + 1) (iC out ++ [.int .i64 (v : Int)]) → (w4.alloc o1).grownBy w6 (Value.slice ua out.length uc).ownBlock → ((Value.slice ua out.length uc).ownBlock = some g ∨ g = w4.heap.size + 1) → g < w6.heap.size → TSt w (.cells #[.int .i64 (k : Int), .slice a E.length cap] 25) B0 (rowL k (wJ E dn (v : Int) 0)) (.slice (some ⟨g, 0, none⟩) (out.length + 1) cp) (out ++ [(v : Int)]) (B0 + 1) H' w6 ∧ TelJ k E dn v 0 H') := fun o1 g cp w6 k1 k2 k3 k4 => ⟨hT.out.1.add k1 k2 k3 k4, hT.out.2⟩
              have hvk : v < k := hV.out.1
              clear hT
              generalize hoe : out.length = ol at *
              have Hoe := hide' hoe
              clear hoe
              go_wp2_with (at_builtin; refine wpList_append_lies _ rfl (.tmp 57) (.tmp 59) 27 (by rfl) B0 3 i3 (.int .i64 0) 1 8 Try.underlying27 hi3 hy0 hy1 hy2 rfl (by decide) (.slice ua ol uc) ol (iC out) (by rfl) (HOw.out _) ⟨w4.heap.size, 0, none⟩ 1 1 [.int .i64 (v : Int)] (by rfl) (by rfl) (World.news_of_block (cs := #[.int .i64 (v : Int)]) (t := 3) (fr := (0, 0)) (heap_alloc_new w4 _)) (by simp [Value.oneCell']) (by omega) (by unfold maxLen; omega) (by omega) (by simp; omega) (w4.heap.size + 1) (by simp) ?_; intro g6 cp6 w6 hown6 hg6 hat6 hlt6; have hT6 := hide' (HAd.out _ _ _ _ hown6 hg6 hat6 hlt6); obtain ⟨y0, y1, -⟩ := row2 hT6.out.1.2.1; clear hown6 hg6 hat6 hlt6)
              clear HOw HAd y0
              go_wp2_with fail
              go_loopw [64] (fun i wz => ∃ (j : Nat) (H : List Int), i = .int .i64 (j : Int) ∧ j ≤ E.length ∧ Hid (TSt w (.cells #[.int .i64 (k : Int), .slice a E.length cap] 25) B0 (rowL k (wJ E dn (v : Int) j)) (.slice (some ⟨g6, 0, none⟩) (ol + 1) cp6) (out ++ [(v : Int)]) (B0 + 1) H wz ∧ TelJ k E dn v j H)) (fun i _ => E.length - (intOf i).toNat)
              case atStart => exact ⟨0, H', rfl, Nat.zero_le _, hT6⟩
              case round =>
                clear hT6 y1
                obtain ⟨j, H, rfl, hj, hS⟩ := hrel
                by_cases hjl : j < E.length
                · have hjl' : (j : Int) < (E.length : Int) := by omega
                  obtain ⟨b, off, rfl, _, q0, q1⟩ := (HX.out wr hS.out.1.2.2.1).at hjl
                  have he := HE.out E[j] (List.getElem_mem hjl)
                  obtain ⟨g2, g3, g4, g5, g6', g7, g8, g9, g10⟩ := hV.out
                  by_cases hev : E[j].1 = (v : Int)
                  · obtain ⟨m1, hm'⟩ : ∃ m : Nat, E[j].2 = (m : Int) := ⟨E[j].2.toNat, by omega⟩
                    have hth := wJ_this (t := m1) g9 g2 hjl g3 hev
                    rw [if_pos hm'] at hth
                    have hle := wJ_le E dn (v : Int) j m1
                    have hs : rowL k (wJ E dn (v : Int) (j + 1)) = (rowL k (wJ E dn (v : Int) j)).set m1 ((wJ E dn (v : Int) j m1 : Int) - 1) := rowL_set (by omega) (fun t ht => by
                      have := wJ_this (t := t) g9 g2 hjl g3 hev
                      rw [if_neg (by omega)] at this
                      omega)
                    have hS' := hS.out.1.alloc (.cells #[.int .i64 (v : Int), .int .i64 (m1 : Int)] 36)
                    obtain ⟨t0, t1⟩ := hS'.1.at (m := m1) (by rw [rowL_len]; omega) 0
                    rw [rowL_at (by omega)] at t0
                    have hT2 := hS'.set m1 ((wJ E dn (v : Int) j m1 : Int) - 1)
                    rw [← hs] at hT2
                    rw [hev] at q0
                    rw [hm'] at q1
                    have hm3 : (0 : Int) ≤ (m1 : Int) := by omega
                    have hm4 : (m1 : Int) < (k : Int) := by omega
                    have hbn : wr.heap.size ≠ w.heap.size + 1 := by have := hS.out.1.1.lt; omega
                    have hfr := end_free HE.out g9 g2 hjl g3 g4 g10 hev hm'
                    have e1 : ∀ z, ((wr.alloc (.cells #[.int .i64 (v : Int), .int .i64 (m1 : Int)] 36)).setCell ⟨w.heap.size + 1, m1, none⟩ z).cell? ⟨wr.heap.size, 1, none⟩ = some (.int .i64 (m1 : Int)) := fun z => by
                      have hh := Below.heap_setCell (wr.alloc (.cells #[.int .i64 (v : Int), .int .i64 (m1 : Int)] 36)) ⟨w.heap.size + 1, m1, none⟩ z wr.heap.size hbn
                      rw [World.cell?_of_block hh]
                      exact (row2 (MapKept.heap_alloc wr (.cells #[.int .i64 (v : Int), .int .i64 (m1 : Int)] 36)).1).2.1
                    by_cases hz : wJ E dn (v : Int) (j + 1) m1 = 0
                    · have HPu : Hid (Calls Try.prog 39 #[.iface 67 (.pointer (some ⟨B0 + 1, 0, none⟩)), .iface 3 (.int .i64 (m1 : Int))] ((wr.alloc (.cells #[.int .i64 (v : Int), .int .i64 (m1 : Int)] 36)).setCell ⟨w.heap.size + 1, m1, none⟩ (.int .i64 ((wJ E dn (v : Int) j m1 : Int) - 1))) fun e w' => e = .returned (.tuple #[]) ∧ ∃ H', Hid (TSt w (.cells #[.int .i64 (k : Int), .slice (some ⟨b, off, none⟩) E.length cap] 25) B0 (rowL k (wJ E dn (v : Int) (j + 1))) (.slice (some ⟨g6, 0, none⟩) (ol + 1) cp6) (out ++ [(v : Int)]) (B0 + 1) H' w' ∧ TelJ k E dn v (j + 1) H')) := by
                        obtain ⟨u, hu⟩ := hT2.2.2.2.2.2
                        refine (push_any _ _ u H (m1 : Int) _ hu (by have := hS.out.2.len; omega) hS.out.2.heap).mono ?_
                        rintro e w' ⟨rfl, u', H', k1, k2, k3, k4⟩
                        exact ⟨rfl, H', hT2.fr k1 k4, hS.out.2.push g9 g2 hjl g3 hev hm' (by omega) hz hfr k2 k3⟩
                      have hc1 : (wJ E dn (v : Int) j m1 : Int) = 1 := by omega
                      rw [hc1] at t0 HPu
                      have h10 : ((1 : Int) - 1) = 0 := rfl
                      rw [h10] at HPu
                      clear hS hS' hT2 hm' hs he hle hth hfr hz hc1 h10 g2 g3 g4 g5 g6' g7 g8 g9 g10 hev
                      go_wp2_with fail
                      refine HPu.out.mono ?_
                      rintro e w7 ⟨rfl, H', hF⟩
                      go_wp2
                      go_roundw
                      case rel => exact ⟨j + 1, H', by go_num, by omega, hF⟩
                      case measure => simp [intOf]; omega
                    · have HN : Hid (TSt w (.cells #[.int .i64 (k : Int), .slice (some ⟨b, off, none⟩) E.length cap] 25) B0 (rowL k (wJ E dn (v : Int) (j + 1))) (.slice (some ⟨g6, 0, none⟩) (ol + 1) cp6) (out ++ [(v : Int)]) (B0 + 1) H ((wr.alloc (.cells #[.int .i64 (v : Int), .int .i64 (m1 : Int)] 36)).setCell ⟨w.heap.size + 1, m1, none⟩ (.int .i64 ((wJ E dn (v : Int) j m1 : Int) - 1))) ∧ TelJ k E dn v (j + 1) H) := ⟨hT2, hS.out.2.dec g9 g2 hjl g3 hev hm' hz⟩
                      have hw1 : IntKind.i64.wrap ((wJ E dn (v : Int) j m1 : Int) - 1) = (wJ E dn (v : Int) j m1 : Int) - 1 := by rw [IntKind.wrap_i64]; omega
                      have hw2 : ((wJ E dn (v : Int) j m1 : Int) - 1 == 0) = false := by simp; omega
                      clear hS hS' hT2 hm' hs he hle hth hfr hz g2 g3 g4 g5 g6' g7 g8 g9 g10 hev
                      generalize (wJ E dn (v : Int) j m1 : Int) = c1 at *
                      go_wp2
                      go_roundw
                      case rel => exact ⟨j + 1, H, by go_num, by omega, HN⟩
                      case measure => simp [intOf]; omega
                  · have HN : Hid (TSt w (.cells #[.int .i64 (k : Int), .slice (some ⟨b, off, none⟩) E.length cap] 25) B0 (rowL k (wJ E dn (v : Int) (j + 1))) (.slice (some ⟨g6, 0, none⟩) (ol + 1) cp6) (out ++ [(v : Int)]) (B0 + 1) H (wr.alloc (.cells #[.int .i64 E[j].1, .int .i64 E[j].2] 36)) ∧ TelJ k E dn v (j + 1) H) := by
                      refine ⟨?_, hS.out.2.skip HE.out g9 g2 hjl hev⟩
                      rw [rowL_same (f := wJ E dn (v : Int) j) (fun t => wJ_other g9 g2 hjl he.1 hev)]
                      exact hS.out.1.alloc _
                    have hev' : (E[j].1 != (v : Int)) = true := by simpa using hev
                    clear hS he g2 g3 g4 g5 g6' g7 g8 g9 g10 hev
                    generalize E[j].1 = ef at *
                    generalize E[j].2 = et at *
                    go_wp2
                    go_roundw
                    case rel => exact ⟨j + 1, H, by go_num, by omega, HN⟩
                    case measure => simp [intOf]; omega
                · have hjl' : ¬ (j : Int) < (E.length : Int) := by omega
                  obtain rfl : j = E.length := by omega
                  have HN : Hid (TSt w (.cells #[.int .i64 (k : Int), .slice a E.length cap] 25) B0 (rowL k (wN E (bSet dn (v : Int)))) (.slice (some ⟨g6, 0, none⟩) (ol + 1) cp6) (out ++ [(v : Int)]) (B0 + 1) H wr ∧ Tel k E (bSet dn (v : Int)) (out ++ [(v : Int)]) H) := by
                    obtain ⟨g2, g3, g4, g5, g6, g7, g8, g9, g10⟩ := hV.out
                    refine ⟨?_, hS.out.2.full g9 g5 g7 g8⟩
                    have := hS.out.1
                    rw [rowL_same (f := wN E (bSet dn (v : Int))) (fun t => wJ_full E dn (v : Int) t)] at this
                    exact this
                  have hlt : ol < k := by have := hV.out.2.2.2.2.1; have := Hoe.out; omega
                  clear hS hV
                  go_wp2
                  go_roundw
                  case rel => exact ⟨_, _, _, HN⟩
                  case measure => (have := Hoe.out; simp [lenOf]; omega)
end Go.Proofs.Ytcdonbepfmhdpaa
/-
  Order of the program.
-/
namespace Go.Proofs.Ytcdonbepfmhdpaa
open Go.RowKit
set_option linter.unusedVariables false
set_option linter.unusedSimpArgs false

theorem ordA_len (n : Int) (E : List Edg) : (ordA n E).length ≤ 1048576 := by
  unfold ordA
  split
  · next h =>
    unfold ordB at h
    rw [Bool.and_eq_true] at h
    have := ordR_len n.toNat E
    have := (gB_iff.1 h.1).2.1
    omega
  · simp

theorem impl_tellable (N : Nat) (n : Int) (x : Value) (E : List Edg) (w : World) (hx : ESeg (fun b => b < N) w x E) (hN : N ≤ w.heap.size) (hg : gB n E = true) :
    Calls Try.prog 20 #[.agg #[.int .i64 n, x]] w fun e w' => ∃ u, e = .returned u ∧ NOwn w' w.heap.size u (ordR n.toNat E) ∧ Below w.heap.size w w' := by
  obtain ⟨h0, h1, _⟩ := gB_iff.1 hg
  obtain ⟨m, rfl⟩ : ∃ m : Nat, n = (m : Int) := ⟨n.toNat, by omega⟩
  have := tellable_any N m x E w hx hN (by omega) (gB_iff.1 hg).2.2.1 (g_in hg)
  simpa using this

set_option maxHeartbeats 3200000 in
set_option maxRecDepth 100000 in
theorem impl_Order_any (N : Nat) (n : Int) (x : Value) (E : List Edg) (w : World) (hx : ESeg (fun b => b < N) w x E) (hN : N ≤ w.heap.size) :
    Calls Try.prog 7 #[.agg #[.int .i64 n, x]] w (OrEnd n E w) := by
  have HX : Hid (∀ wx, Below w.heap.size w wx → ESeg (fun b => b < N) wx x E) := fun wx hb => hx.agree (agree_below (hb.mono hN))
  have Hb : Hid (∀ o : Obj, Below w.heap.size w (w.alloc o)) := fun o => (Below.refl _ _).alloc (Nat.le_refl _) o
  have Hbox : Hid (∀ o wx, Below (w.alloc o).heap.size (w.alloc o) wx → wx.heap[w.heap.size]? = some o) := fun o wx h => box_row h
  have HG : Hid (∀ wx, Below w.heap.size w wx → Calls Try.prog 9 #[.agg #[.int .i64 n, x]] wx fun e w' => e = .returned (.bool (gB n E)) ∧ Below wx.heap.size wx w') := fun wx hb => impl_GraphOk_any N n x E wx (HX.out wx hb) (by have := hb.size; omega)
  have HOo : Hid (gB n E = true → ∀ wx, Below w.heap.size w wx → Calls Try.prog 20 #[.agg #[.int .i64 n, x]] wx fun e w' => ∃ u, e = .returned u ∧ NOwn w' wx.heap.size u (ordR n.toNat E) ∧ Below wx.heap.size wx w') := fun hg wx hb => impl_tellable N n x E wx (HX.out wx hb) (by have := hb.size; omega) hg
  obtain ⟨a, cap, rfl, -⟩ := hx
  show Calls _ _ _ _ fun e w' => ∃ u, e = .returned (.tuple #[u, .bool (ordB n E)]) ∧ NOwn w' w.heap.size u (ordA n E) ∧ Below w.heap.size w w'
  by_cases hg : gB n E = true
  rotate_left
  · have hg' : gB n E = false := by simpa using hg
    have hb0 : ordB n E = false := by simp [ordB, hg']
    have ha0 : ordA n E = [] := by simp [ordA, hb0]
    rw [hg'] at HG
    rw [hb0, ha0]
    clear HX HOo hg hg' hb0 ha0
    generalize E.length = ll at *
    go_enter Try.func7, Try.ntmps7
    go_wp2_with fail
    refine (HG.out _ (Hb.out _)).mono ?_
    rintro e w1 ⟨rfl, b1⟩
    have B1 := hide' (Below.on (Hb.out _) b1)
    clear b1
    go_wp2
    go_ret2
    exact ⟨_, rfl, NOwn.nil _ _, B1.out⟩
  have HO2 := hide' (HOo.out hg)
  obtain ⟨hn0, hn1, -⟩ := gB_iff.1 hg
  have hlen := ordR_len n.toNat E
  have hob : ordB n E = decide (n.toNat ≤ (ordR n.toNat E).length) := by simp [ordB, hg]
  have hoa : ordA n E = if ordB n E = true then ordR n.toNat E else [] := rfl
  rw [hg] at HG
  clear HX HOo hg
  generalize ordR n.toNat E = l at *
  by_cases hle : n.toNat ≤ l.length
  · have hb1 : ordB n E = true := by rw [hob]; simpa using hle
    rw [hb1] at hoa
    rw [hb1, hoa]
    have hle' : ¬ (l.length : Int) < n := by omega
    clear hob hoa hb1
    generalize E.length = ll at *
    go_enter Try.func7, Try.ntmps7
    go_wp2_with fail
    refine (HG.out _ (Hb.out _)).mono ?_
    rintro e w1 ⟨rfl, b1⟩
    have B1 := hide' b1
    obtain ⟨g0, g1, -⟩ := row2 (Hbox.out _ _ b1)
    have HC := hide' (HO2.out w1 (Below.on (Hb.out _) b1))
    clear b1
    go_wp2_with fail
    refine HC.out.mono ?_
    rintro e w2 ⟨u, rfl, hO, b2⟩
    have B2 := hide' (Below.on B1.out b2)
    obtain ⟨ua, uc, rfl⟩ := hO.form
    have hz : w.heap.size ≤ w1.heap.size := (Below.on (Hb.out _) B1.out).size
    have HO := hide' (hO.down hz)
    obtain ⟨g0, g1, -⟩ := row2 (Hbox.out _ _ B2.out)
    clear hO b2 HC
    go_wp2
    go_ret2
    exact ⟨_, rfl, HO.out, Below.on (Hb.out _) B2.out⟩
  · have hb1 : ordB n E = false := by rw [hob]; simpa using hle
    rw [hb1] at hoa
    rw [hb1, hoa]
    have hle' : (l.length : Int) < n := by omega
    clear hob hoa hb1
    generalize E.length = ll at *
    go_enter Try.func7, Try.ntmps7
    go_wp2_with fail
    refine (HG.out _ (Hb.out _)).mono ?_
    rintro e w1 ⟨rfl, b1⟩
    have B1 := hide' b1
    obtain ⟨g0, g1, -⟩ := row2 (Hbox.out _ _ b1)
    have HC := hide' (HO2.out w1 (Below.on (Hb.out _) b1))
    clear b1
    go_wp2_with fail
    refine HC.out.mono ?_
    rintro e w2 ⟨u, rfl, hO, b2⟩
    have B2 := hide' (Below.on B1.out b2)
    obtain ⟨ua, uc, rfl⟩ := hO.form
    obtain ⟨g0, g1, -⟩ := row2 (Hbox.out _ _ B2.out)
    clear hO b2 HC
    go_wp2
    go_ret2
    exact ⟨_, rfl, NOwn.nil _ _, Below.on (Hb.out _) B2.out⟩
end Go.Proofs.Ytcdonbepfmhdpaa
/-
  Leads of the program.
-/
namespace Go.Proofs.Ytcdonbepfmhdpaa
open Go.RowKit
set_option linter.unusedVariables false
set_option linter.unusedSimpArgs false

theorem leadsB_hv (n : Int) (E : List Edg) (p q : Int) : leadsB n E p q = (gB n E && (hvB n p && (hvB n q && leadsF n.toNat E p q (-1)))) := by
  simp only [leadsB, hvB, Bool.and_assoc]
theorem leads_src {n : Nat} {E : List Edg} (hg : gB (n : Int) E = true) {p q : Int} (hp : 0 ≤ p) (hq : 0 ≤ q) : leadsF n E p q (-1) = (bvAt (srcF n E) q).getLsbD p.toNat := by
  have hE := g_in hg
  have hn : n ≤ 20 := by have := (gB_iff.1 hg).2.1; omega
  rw [Bool.eq_iff_iff, leads_iff hE, src_iff hn hE _ hq, Int.toNat_of_nonneg hp]
/-- What sourcesOf leaves, asked of a graph that may be. -/
theorem sources_g (N : Nat) (n : Int) (x : Value) (E : List Edg) (w : World) (hx : ESeg (fun b => b < N) w x E) (hN : N ≤ w.heap.size) (hg : gB n E = true) :
    Calls Try.prog 25 #[.agg #[.int .i64 n, x]] w fun e w' => ∃ D, e = .returned (.slice (some ⟨D, 0, none⟩) n.toNat n.toNat) ∧ w.heap.size ≤ D ∧ VRow (fun x : BV => Value.int .u32 (x.toNat : Int)) 53 D (srcF n.toNat E) w' ∧ Below w.heap.size w w' := by
  obtain ⟨h0, h1, _⟩ := gB_iff.1 hg
  obtain ⟨m, rfl⟩ : ∃ m : Nat, n = (m : Int) := ⟨n.toNat, by omega⟩
  have := sourcesOf_any N m x E w hx hN (by omega) (g_in hg)
  simpa using this

set_option maxHeartbeats 3200000 in
set_option maxRecDepth 100000 in
theorem impl_Leads_any (N : Nat) (n : Int) (x : Value) (E : List Edg) (p q : Int) (w : World) (hx : ESeg (fun b => b < N) w x E) (hN : N ≤ w.heap.size) :
    Calls Try.prog 17 #[.agg #[.int .i64 n, x], .int .i64 p, .int .i64 q] w fun e w' => e = .returned (.bool (leadsB n E p q)) ∧ Below w.heap.size w w' := by
  have HX : Hid (∀ wx, Below w.heap.size w wx → ESeg (fun b => b < N) wx x E) := fun wx hb => hx.agree (agree_below (hb.mono hN))
  have Hb : Hid (∀ o : Obj, Below w.heap.size w (w.alloc o)) := fun o => (Below.refl _ _).alloc (Nat.le_refl _) o
  have Hbox : Hid (∀ o wx, Below (w.alloc o).heap.size (w.alloc o) wx → wx.heap[w.heap.size]? = some o) := fun o wx h => box_row h
  have HG : Hid (∀ wx, Below w.heap.size w wx → Calls Try.prog 9 #[.agg #[.int .i64 n, x]] wx fun e w' => e = .returned (.bool (gB n E)) ∧ Below wx.heap.size wx w') := fun wx hb => impl_GraphOk_any N n x E wx (HX.out wx hb) (by have := hb.size; omega)
  have HV : Hid (∀ v wx, Calls Try.prog 22 #[.agg #[.int .i64 n, x], .int .i64 v] wx fun e w' => e = .returned (.bool (hvB n v)) ∧ Below wx.heap.size wx w') := fun v wx => hasVert_any n v x wx
  have HSr : Hid (gB n E = true → ∀ wx, Below w.heap.size w wx → Calls Try.prog 25 #[.agg #[.int .i64 n, x]] wx fun e w' => ∃ D, e = .returned (.slice (some ⟨D, 0, none⟩) n.toNat n.toNat) ∧ wx.heap.size ≤ D ∧ VRow (fun x : BV => Value.int .u32 (x.toNat : Int)) 53 D (srcF n.toNat E) w' ∧ Below wx.heap.size wx w') := fun hg wx hb => sources_g N n x E wx (HX.out wx hb) (by have := hb.size; omega) hg
  have HL := hide' (leadsB_hv n E p q)
  obtain ⟨a, cap, rfl, -⟩ := hx
  clear HX
  generalize hll : E.length = ll at *
  cases hg : gB n E with
  | false =>
    have HF : Hid (leadsB n E p q = false) := by show _ = _; rw [HL.out, hg]; rfl
    rw [hg] at HG
    clear HSr HL HV
    go_enter Try.func17, Try.ntmps17
    go_wp2_with fail
    refine (HG.out _ (Hb.out _)).mono ?_
    rintro e w1 ⟨rfl, b1⟩
    have B1 := hide' (Below.on (Hb.out _) b1)
    clear b1
    go_wp2
    go_ret
    exact ⟨ret_bool HF.out.symm, B1.out⟩
  | true =>
    have hg0 := hg
    rw [hg] at HG
    have HV1 := hide' (HV.out p)
    have HV2 := hide' (HV.out q)
    clear HV
    cases h1 : hvB n p with
    | false =>
      have HF : Hid (leadsB n E p q = false) := by show _ = _; rw [HL.out, hg, h1]; rfl
      rw [h1] at HV1
      clear HSr HL HV2
      go_enter Try.func17, Try.ntmps17
      go_wp2_with fail
      refine (HG.out _ (Hb.out _)).mono ?_
      rintro e w1 ⟨rfl, b1⟩
      obtain ⟨y0, y1, -⟩ := row2 (Hbox.out _ _ b1)
      have B1 := hide' (Below.on (Hb.out _) b1)
      clear b1
      go_wp2_with fail
      refine (HV1.out _).mono ?_
      rintro e w2 ⟨rfl, b2⟩
      have B2 := hide' (Below.on B1.out b2)
      clear b2 y0 y1
      go_wp2
      go_ret
      exact ⟨ret_bool HF.out.symm, B2.out⟩
    | true =>
      rw [h1] at HV1
      cases h2 : hvB n q with
      | false =>
        have HF : Hid (leadsB n E p q = false) := by show _ = _; rw [HL.out, hg, h1, h2]; rfl
        rw [h2] at HV2
        clear HSr HL
        go_enter Try.func17, Try.ntmps17
        go_wp2_with fail
        refine (HG.out _ (Hb.out _)).mono ?_
        rintro e w1 ⟨rfl, b1⟩
        obtain ⟨y0, y1, -⟩ := row2 (Hbox.out _ _ b1)
        have B1 := hide' b1
        clear b1
        go_wp2_with fail
        refine (HV1.out _).mono ?_
        rintro e w2 ⟨rfl, b2⟩
        have B2 := hide' (Below.on B1.out b2)
        clear b2 y0 y1 B1
        obtain ⟨y0, y1, -⟩ := row2 (Hbox.out _ _ B2.out)
        go_wp2_with fail
        refine (HV2.out _).mono ?_
        rintro e w3 ⟨rfl, b3⟩
        have B3 := hide' (Below.on (Hb.out _) (Below.on B2.out b3))
        clear b3 y0 y1
        go_wp2
        go_ret
        exact ⟨ret_bool HF.out.symm, B3.out⟩
      | true =>
        rw [h2] at HV2
        obtain ⟨c0, c1, _⟩ := gB_iff.1 hg
        simp only [hvB, Bool.and_eq_true, decide_eq_true_eq] at h1 h2
        obtain ⟨m, rfl⟩ : ∃ m : Nat, n = (m : Int) := ⟨n.toNat, by omega⟩
        obtain ⟨p', rfl⟩ : ∃ m : Nat, p = (m : Int) := ⟨p.toNat, by omega⟩
        obtain ⟨q', rfl⟩ : ∃ m : Nat, q = (m : Int) := ⟨q.toNat, by omega⟩
        have HF : Hid (leadsB (m : Int) E (p' : Int) (q' : Int) = ((srcF m E).getD q' 0).getLsbD p') := by
          show _ = _
          rw [HL.out, hg]
          have e1 : hvB (m : Int) (p' : Int) = true := by simp only [hvB, Bool.and_eq_true, decide_eq_true_eq]; exact h1
          have e2 : hvB (m : Int) (q' : Int) = true := by simp only [hvB, Bool.and_eq_true, decide_eq_true_eq]; exact h2
          rw [e1, e2, Int.toNat_natCast, leads_src hg h1.1 h2.1]
          simp [bvAt]
        have HSr' := hide' (HSr.out hg)
        have hsl := srcF_len m E
        simp only [Int.toNat_natCast] at HSr'
        have k1 : (0 : Int) ≤ (q' : Int) := h2.1
        have k2 : (q' : Int) < (m : Int) := h2.2
        have k3 : p' < 32 := by omega
        have k4 : q' < m := by omega
        clear HSr HL h1 h2 c0 c1
        generalize srcF m E = sr at *
        go_enter Try.func17, Try.ntmps17
        go_wp2_with fail
        refine (HG.out _ (Hb.out _)).mono ?_
        rintro e w1 ⟨rfl, b1⟩
        obtain ⟨y0, y1, -⟩ := row2 (Hbox.out _ _ b1)
        have B1 := hide' b1
        clear b1
        go_wp2_with fail
        refine (HV1.out _).mono ?_
        rintro e w2 ⟨rfl, b2⟩
        have B2 := hide' (Below.on B1.out b2)
        clear b2 y0 y1 B1
        obtain ⟨y0, y1, -⟩ := row2 (Hbox.out _ _ B2.out)
        go_wp2_with fail
        refine (HV2.out _).mono ?_
        rintro e w3 ⟨rfl, b3⟩
        have B3 := hide' (Below.on B2.out b3)
        clear b3 y0 y1 B2
        obtain ⟨y0, y1, -⟩ := row2 (Hbox.out _ _ B3.out)
        go_wp2_with fail
        refine (HSr'.out _ (Below.on (Hb.out _) B3.out)).mono ?_
        rintro e w4 ⟨D, rfl, -, hrow, b4⟩
        have B4 := hide' (Below.on (Below.on (Hb.out _) B3.out) b4)
        obtain ⟨r0, -⟩ := hrow.at (m := q') (by omega) 0
        (try dsimp only at r0)
        have HH := hide' (has_any (sr.getD q' 0) p' k3)
        clear b4 y0 y1 B3 hrow
        generalize sr.getD q' 0 = bv at *
        go_wp2_with fail
        refine (HH.out _).mono ?_
        rintro e w5 ⟨rfl, e5⟩
        obtain rfl := e5
        go_wp2
        go_ret
        exact ⟨ret_bool HF.out.symm, B4.out⟩
end Go.Proofs.Ytcdonbepfmhdpaa
/-
  Ring of the program.
-/
namespace Go.Proofs.Ytcdonbepfmhdpaa
open Go.RowKit
set_option linter.unusedVariables false
set_option linter.unusedSimpArgs false

theorem ringA_len (n : Int) (E : List Edg) : (ringA n E).length ≤ 1048576 := by
  unfold ringA
  split
  · next h =>
    have := ringF_len n.toNat E n.toNat
    have := (gB_iff.1 h).2.1
    omega
  · simp
theorem ring_src {n : Nat} {E : List Edg} (hg : gB (n : Int) E = true) (v : Nat) : ringB n E v = ((srcF n E).getD v 0).getLsbD v := by
  have hE := g_in hg
  have hn : n ≤ 20 := by have := (gB_iff.1 hg).2.1; omega
  have h := src_iff hn hE v (b := (v : Int)) (by omega)
  rw [Bool.eq_iff_iff, ring_iff hE, ← h]
  simp [bvAt]

/-- A row that is read, and numbers of the call's own behind B. -/
def QSt (sr : List BV) (D B : Nat) (w : World) (u : Value) (l : List Int) (wr : World) : Prop := VRow (fun x : BV => Value.int .u32 (x.toNat : Int)) 53 D sr wr ∧ NOwn wr B u l ∧ Below w.heap.size w wr ∧ B ≤ wr.heap.size ∧ D < B ∧ w.heap.size ≤ B
theorem qSt_add {sr : List BV} {D B g cp : Nat} {w wr w6 : World} {ua : Option Addr} {uc : Nat} {l : List Int} {x : Int} {o : Obj} (h : QSt sr D B w (.slice ua l.length uc) l wr) (h1 : w6.ownsRow B 3 1 (.slice (some ⟨g, 0, none⟩) (l.length + 1) cp) (l.length + 1) (iC l ++ [.int .i64 x])) (h2 : (wr.alloc o).grownBy w6 (Value.slice ua l.length uc).ownBlock) : QSt sr D B w (.slice (some ⟨g, 0, none⟩) (l.length + 1) cp) (l ++ [x]) w6 := by
  obtain ⟨q1, q2, q3, q4, q5, q6⟩ := h
  refine ⟨(q1.keep (World.grownBy_alloc wr o none) (by simp)).keep h2 (fun e => by have := (q2.lt _ e).1; omega), ?_, (q3.alloc (by omega) o).grown h2 (by simp; omega) (fun k hk => by have := (q2.lt _ hk).1; omega), by have := h2.size; simp at this; omega, q5, q6⟩
  unfold NOwn
  rw [iC_add, List.length_append]
  exact h1

set_option maxHeartbeats 3200000 in
set_option maxRecDepth 100000 in
theorem impl_Ring_any (N : Nat) (n : Int) (x : Value) (E : List Edg) (w : World) (hx : ESeg (fun b => b < N) w x E) (hN : N ≤ w.heap.size) :
    Calls Try.prog 11 #[.agg #[.int .i64 n, x]] w fun e w' => ∃ u, e = .returned u ∧ NOwn w' w.heap.size u (ringA n E) ∧ Below w.heap.size w w' := by
  have HX : Hid (∀ wx, Below w.heap.size w wx → ESeg (fun b => b < N) wx x E) := fun wx hb => hx.agree (agree_below (hb.mono hN))
  have Hb : Hid (∀ o : Obj, Below w.heap.size w (w.alloc o)) := fun o => (Below.refl _ _).alloc (Nat.le_refl _) o
  have Hbox : Hid (∀ o wx, Below (w.alloc o).heap.size (w.alloc o) wx → wx.heap[w.heap.size]? = some o) := fun o wx h => box_row h
  have HG : Hid (∀ wx, Below w.heap.size w wx → Calls Try.prog 9 #[.agg #[.int .i64 n, x]] wx fun e w' => e = .returned (.bool (gB n E)) ∧ Below wx.heap.size wx w') := fun wx hb => impl_GraphOk_any N n x E wx (HX.out wx hb) (by have := hb.size; omega)
  have HSr : Hid (gB n E = true → ∀ wx, Below w.heap.size w wx → Calls Try.prog 25 #[.agg #[.int .i64 n, x]] wx fun e w' => ∃ D, e = .returned (.slice (some ⟨D, 0, none⟩) n.toNat n.toNat) ∧ wx.heap.size ≤ D ∧ VRow (fun x : BV => Value.int .u32 (x.toNat : Int)) 53 D (srcF n.toNat E) w' ∧ Below wx.heap.size wx w') := fun hg wx hb => sources_g N n x E wx (HX.out wx hb) (by have := hb.size; omega) hg
  obtain ⟨i3, hi3, hy0, hy1, hy2⟩ := info_parts infoI
  obtain ⟨a, cap, rfl, -⟩ := hx
  clear HX
  generalize hll : E.length = ll at *
  cases hg : gB n E with
  | false =>
    have HF : Hid (ringA n E = []) := by show _ = _; simp [ringA, hg]
    rw [hg] at HG
    clear HSr
    go_enter Try.func11, Try.ntmps11
    go_wp2_with fail
    refine (HG.out _ (Hb.out _)).mono ?_
    rintro e w1 ⟨rfl, b1⟩
    have B1 := hide' (Below.on (Hb.out _) b1)
    clear b1
    go_wp2
    go_ret
    exact ⟨_, rfl, by rw [HF.out]; exact NOwn.nil _ _, B1.out⟩
  | true =>
    rw [hg] at HG
    obtain ⟨c0, c1, _⟩ := gB_iff.1 hg
    obtain ⟨m, rfl⟩ : ∃ m : Nat, n = (m : Int) := ⟨n.toNat, by omega⟩
    have HF : Hid (ringA (m : Int) E = ringF m E m) := by show _ = _; simp [ringA, hg]
    have HSr' := hide' (HSr.out hg)
    have HRs : Hid (∀ k, ringF m E (k + 1) = ringF m E k ++ (if ((srcF m E).getD k 0).getLsbD k = true then [(k : Int)] else [])) := fun k => by rw [ringF_succ, ring_src hg]
    have HRl : Hid (∀ k, (ringF m E k).length ≤ k) := fun k => ringF_len m E k
    have HR0 : Hid (ringF m E 0 = []) := rfl
    have hsl := srcF_len m E
    simp only [Int.toNat_natCast] at HSr'
    have hm20 : m ≤ 20 := by omega
    clear HSr hg c0 c1
    generalize srcF m E = sr at *
    generalize ringF m E = rg at *
    go_enter Try.func11, Try.ntmps11
    go_wp2_with fail
    refine (HG.out _ (Hb.out _)).mono ?_
    rintro e w1 ⟨rfl, b1⟩
    obtain ⟨y0, y1, -⟩ := row2 (Hbox.out _ _ b1)
    have B1 := hide' (Below.on (Hb.out _) b1)
    clear b1
    go_wp2_with fail
    refine (HSr'.out _ B1.out).mono ?_
    rintro e w2 ⟨D, rfl, hDl, hrow, b2⟩
    have hS0 : Hid (QSt sr D w2.heap.size w (.slice none 0 0) (rg 0) w2) := by
      refine ⟨hrow, ?_, Below.on B1.out b2, Nat.le_refl _, hrow.lt, (Below.on B1.out b2).size⟩
      rw [HR0.out]
      exact NOwn.nil _ _
    clear b2 y0 y1 B1 hrow HSr' hDl
    generalize w2.heap.size = B at *
    go_wp2_with fail
    go_loopw [3, 12] (fun u i wr => ∃ j : Nat, i = .int .i64 j ∧ j ≤ m ∧ Hid (QSt sr D B w u (rg j) wr)) (fun _ i _ => m - (intOf i).toNat)
    case atStart => exact ⟨0, rfl, Nat.zero_le _, hS0⟩
    case round =>
      clear hS0
      obtain ⟨j, rfl, hj, hS⟩ := hrel
      obtain ⟨ua, uc, rfl⟩ := hS.out.2.1.form
      have hol := HRl.out j
      by_cases hjk : j < m
      · have hjk' : (j : Int) < (m : Int) := by omega
        obtain ⟨r0, -⟩ := hS.out.1.at (m := j) (by omega) 0
        (try dsimp only at r0)
        have hos := HRs.out j
        have HH := hide' (has_any (sr.getD j 0) j (by omega))
        generalize sr.getD j 0 = bv at *
        cases hb : bv.getLsbD j with
        | true =>
          rw [if_pos hb] at hos
          rw [hb] at HH
          have HOw : Hid (∀ o, (wr.alloc o).ownsRow B 3 1 (.slice ua (rg j).length uc) (rg j).length (iC (rg j))) := fun o => World.ownsRow.alloc hS.out.2.1 o
          have hzr : B ≤ wr.heap.size := hS.out.2.2.2.1
          have HNx : Hid (∀ o g cp w6, w6.ownsRow B 3 1 (.slice (some ⟨g, 0, none⟩) ((rg j).length + 1) cp) ((rg j).length + 1) (iC (rg j) ++ [.int .i64 (j : Int)]) → (wr.alloc o).grownBy w6 (Value.slice ua (rg j).length uc).ownBlock → QSt sr D B w (.slice (some ⟨g, 0, none⟩) ((rg j).length + 1) cp) (rg (j + 1)) w6) := fun o g cp w6 h1 h2 => by
            rw [hos]
            exact qSt_add hS.out h1 h2
          clear hS hos hb
          generalize hol' : (rg j).length = ol at *
          go_wp2_with fail
          refine (HH.out _).mono ?_
          rintro e w5 ⟨rfl, e5⟩
          obtain rfl := e5
          go_wp2_with (at_builtin; refine wpList_append_lies _ rfl (.tmp 20) (.tmp 22) 27 (by rfl) B 3 i3 (.int .i64 0) 1 8 Try.underlying27 hi3 hy0 hy1 hy2 rfl (by decide) (.slice ua ol uc) ol (iC (rg j)) (by rfl) (HOw.out _) ⟨wr.heap.size, 0, none⟩ 1 1 [.int .i64 (j : Int)] (by rfl) (by rfl) (World.news_of_block (cs := #[.int .i64 (j : Int)]) (t := 3) (fr := (0, 0)) (heap_alloc_new wr _)) (by simp [Value.oneCell']) (by omega) (by unfold maxLen; omega) (by omega) (by simp; omega) (wr.heap.size + 1) (by simp) ?_; intro g6 cp6 w6 hown6 hg6 hat6 hlt6; replace hown6 := hide' (HNx.out _ _ _ _ hown6 hg6); clear hg6 hat6 hlt6)
          go_wp2
          go_roundw
          case rel => exact ⟨j + 1, by go_num, by omega, hown6⟩
          case measure => simp [intOf]; omega
        | false =>
          rw [if_neg (by simp [hb])] at hos
          rw [hb] at HH
          have HN : Hid (QSt sr D B w (.slice ua (rg j).length uc) (rg (j + 1)) wr) := by
            rw [hos, List.append_nil]
            exact hS.out
          clear hS hos hb
          generalize (rg j).length = ol at *
          go_wp2_with fail
          refine (HH.out _).mono ?_
          rintro e w5 ⟨rfl, e5⟩
          obtain rfl := e5
          go_wp2
          go_roundw
          case rel => exact ⟨j + 1, by go_num, by omega, HN⟩
          case measure => simp [intOf]; omega
      · have hjk' : ¬ (j : Int) < (m : Int) := by omega
        obtain rfl : j = m := by omega
        have HF' := hide' (And.intro (hS.out.2.1.down (base' := w.heap.size) hS.out.2.2.2.2.2) hS.out.2.2.1)
        clear hS
        generalize (rg j).length = ol at *
        go_wp2
        go_ret
        exact ⟨_, rfl, by rw [HF.out]; exact HF'.out.1, HF'.out.2⟩
end Go.Proofs.Ytcdonbepfmhdpaa
