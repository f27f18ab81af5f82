/-
  Texts that a law leans on, one behind the other; no statement is proved here.
-/
import Derived.Test.YtpnohgncnmbkdaaPk6
import Derived.Test.YtpnohgncnmbkdaaPk5
/-
  l9leads of the specification: is there a way, one edge being left aside?
-/
namespace Go.Proofs.Ytpnohgncnmbkdaa
open Go.RowKit
set_option linter.unusedVariables false
set_option linter.unusedSimpArgs false

/-- The first j edges, but for number 'aside'. -/
def restF (E : List Edg) (aside : Int) (j : Nat) : List Edg := ((List.range j).filter fun i : Nat => !decide ((i : Int) = aside)).map fun i => E.getD i (0, 0)
/-- What l9leads answers. -/
def leadsF (n : Nat) (E : List Edg) (a b aside : Int) : Bool := decide (b ∈ reachF n (restF E aside E.length) (nextL (restF E aside E.length) a))

theorem restF_zero (E : List Edg) (aside : Int) : restF E aside 0 = [] := rfl
theorem restF_succ (E : List Edg) (aside : Int) (j : Nat) (h : j < E.length) : restF E aside (j + 1) = restF E aside j ++ (if (j : Int) = aside then [] else [E[j]]) := by
  unfold restF
  rw [List.range_succ, List.filter_append, List.map_append, List.filter_cons, List.filter_nil]
  have hg : E.getD j (0, 0) = E[j] := by simp [List.getD_eq_getElem?_getD, h]
  by_cases e : (j : Int) = aside
  · rw [if_pos e, if_neg (by simp [e])]
    rfl
  · rw [if_neg e, if_pos (by simp [e])]
    simp [hg, h]
theorem restF_len (E : List Edg) (aside : Int) (j : Nat) : (restF E aside j).length ≤ j := by
  unfold restF
  rw [List.length_map]
  exact Nat.le_trans (List.length_filter_le _ _) (by simp)
theorem restF_in {n : Nat} {E : List Edg} (hE : InG n E) (aside : Int) : InG n (restF E aside E.length) := fun e he => by
  unfold restF at he
  obtain ⟨i, hi, rfl⟩ := List.mem_map.1 he
  have hi' : i < E.length := by simpa using (List.mem_filter.1 hi).1
  have hg : E.getD i (0, 0) = E[i] := by simp [List.getD_eq_getElem?_getD, hi']
  rw [hg]
  exact hE _ (List.getElem_mem hi')
theorem nextL_add (l : List Edg) (e : Edg) (v : Int) : nextL (l ++ [e]) v = nextL l v ++ (if e.1 = v then [e.2] else []) := by
  unfold nextL
  rw [List.filter_append, List.map_append, List.filter_cons, List.filter_nil]
  by_cases c : e.1 = v
  · rw [if_pos c, if_pos (by simpa using c)]
    rfl
  · rw [if_neg c, if_neg (by simpa using c)]
    rfl

/-- Two rows of different kinds lie apart. -/
theorem rows_apart {w : World} {b1 b2 : Nat} {u v : Value} {l : List Edg} {q : List Int} (h : EOwn w b1 u l) (k : NOwn w b2 v q) : ∀ g, u.ownBlock = some g → v.ownBlock ≠ some g := by
  intro g hg hv
  rcases h.2 with ⟨rfl, _⟩ | ⟨g1, c1, cur1, rfl, _, h1, _⟩
  · simp [Value.ownBlock] at hg
  · rcases k.2 with ⟨rfl, _⟩ | ⟨g2, c2, cur2, rfl, _, h2, _⟩
    · simp [Value.ownBlock] at hv
    · simp [Value.ownBlock] at hg hv
      subst hg
      subst hv
      rw [h1] at h2
      simp at h2

/-- The graph's box, the box of what is left (with a row of its own), and a row of numbers. -/
def LSt (w : World) (o : Obj) (n : Int) (l : List Edg) (q : List Int) (u v : Value) (wr : World) : Prop :=
  wr.heap[w.heap.size]? = some o ∧ Below w.heap.size w wr ∧ wr.heap[w.heap.size + 1]? = some (.cells #[.int .i64 n, u] 25 (0, 0)) ∧ EOwn wr (w.heap.size + 2) u l ∧ NOwn wr (w.heap.size + 2) v q

theorem lSt_edge {w wr w6 : World} {o o1 : Obj} {g cp : Nat} {n : Int} {l : List Edg} {q : List Int} {ua : Option Addr} {uc : Nat} {v : Value} {e : Edg} (h : LSt w o n l q (.slice ua l.length uc) v wr) (hown : w6.ownsRow (w.heap.size + 2) 36 2 (.slice (some ⟨g, 0, none⟩) (l.length + 1) cp) (l.length + 1) (eC l ++ [.int .i64 e.1, .int .i64 e.2])) (hg : (wr.alloc o1).grownBy w6 (Value.slice ua l.length uc).ownBlock) :
    (w6.cell? ⟨w.heap.size + 1, 1, none⟩ = some (.slice ua l.length uc) ∧ w6.frozen? ⟨w.heap.size + 1, 1, none⟩ = false) ∧ LSt w o n (l ++ [e]) q (.slice (some ⟨g, 0, none⟩) (l.length + 1) cp) v (w6.setCell ⟨w.heap.size + 1, 1, none⟩ (.slice (some ⟨g, 0, none⟩) (l.length + 1) cp)) := by
  obtain ⟨h1, h3, h5, h6, h7⟩ := h
  have hR : w.heap.size + 1 < wr.heap.size := (Array.getElem?_eq_some_iff.1 h5).1
  have hlt := h6.lt
  have hap := rows_apart h6 h7
  have hk : ∀ b, b ≤ w.heap.size + 1 → w6.heap[b]? = wr.heap[b]? := fun b hb => (hg.block b (by simp; omega) (fun e' => by have := (hlt b e'.symm).1; omega)).trans (Below.heap_alloc wr o1 b (by omega))
  have h56 := (hk (w.heap.size + 1) (Nat.le_refl _)).trans h5
  obtain ⟨t0, t1, tf⟩ := row2 h56
  have hO : EOwn w6 (w.heap.size + 2) (.slice (some ⟨g, 0, none⟩) (l.length + 1) cp) (l ++ [e]) := by
    unfold EOwn
    rw [eC_add, List.length_append]
    exact hown
  have hQ : NOwn w6 (w.heap.size + 2) v q := (NOwn.on h7 ((Below.refl _ _).alloc (Nat.le_refl _) o1)).far hg (fun k hk' e' => hap k e' hk')
  refine ⟨⟨t1, tf 1⟩, (Below.heap_setCell w6 _ _ _ (by show w.heap.size ≠ w.heap.size + 1; omega)).trans ((hk _ (by omega)).trans h1), ?_, ?_, ?_, ?_⟩
  · exact (((h3.alloc (by omega) o1).grown hg (by simp; omega) (fun q hq => by have := (hlt q hq).1; omega))).setCell (by show w.heap.size ≤ w.heap.size + 1; omega) _
  · rw [heap_setCell_same w6 _ 1 _ _ _ h56]
    rfl
  · exact hO.far (grown1 w6 _ 1 _) (fun q hq => by have := (hO.lt q hq).1; simp; omega)
  · exact hQ.far (grown1 w6 _ 1 _) (fun q hq => by have := (hQ.lt q hq).1; simp; omega)
theorem lSt_num {w wr w6 : World} {o o1 : Obj} {g cp : Nat} {n : Int} {l : List Edg} {q : List Int} {va : Option Addr} {vc : Nat} {u : Value} {x : Int} (h : LSt w o n l q u (.slice va q.length vc) wr) (hown : w6.ownsRow (w.heap.size + 2) 3 1 (.slice (some ⟨g, 0, none⟩) (q.length + 1) cp) (q.length + 1) (iC q ++ [.int .i64 x])) (hg : (wr.alloc o1).grownBy w6 (Value.slice va q.length vc).ownBlock) :
    LSt w o n l (q ++ [x]) u (.slice (some ⟨g, 0, none⟩) (q.length + 1) cp) w6 := by
  obtain ⟨h1, h3, h5, h6, h7⟩ := h
  have hR : w.heap.size + 1 < wr.heap.size := (Array.getElem?_eq_some_iff.1 h5).1
  have hlt := h7.lt
  have hap := rows_apart h6 h7
  have hk : ∀ b, b ≤ w.heap.size + 1 → w6.heap[b]? = wr.heap[b]? := fun b hb => (hg.block b (by simp; omega) (fun e' => by have := (hlt b e'.symm).1; omega)).trans (Below.heap_alloc wr o1 b (by omega))
  have hO : NOwn w6 (w.heap.size + 2) (.slice (some ⟨g, 0, none⟩) (q.length + 1) cp) (q ++ [x]) := by
    unfold NOwn
    rw [iC_add, List.length_append]
    exact hown
  exact ⟨(hk _ (by omega)).trans h1, (h3.alloc (by omega) o1).grown hg (by simp; omega) (fun q hq => by have := (hlt q hq).1; omega), (hk _ (Nat.le_refl _)).trans h5, (EOwn.on h6 ((Below.refl _ _).alloc (Nat.le_refl _) o1)).far hg (fun k hk' e' => hap k hk' e'), hO⟩

set_option maxHeartbeats 6400000 in
set_option maxRecDepth 100000 in
theorem l9leads_any (N n : Nat) (x : Value) (E : List Edg) (a b aside : Int) (w : World) (hx : ESeg (fun b => b < N) w x E) (hN : N ≤ w.heap.size) (hn : n ≤ 20) (hE : InG n E) (hel : E.length ≤ 400) :
    Calls Try.prog 71 #[.agg #[.int .i64 (n : Int), x], .int .i64 a, .int .i64 b, .int .i64 aside] w fun e w' => e = .returned (.bool (leadsF n E a b aside)) ∧ Below w.heap.size w w' := by
  have HX : Hid (∀ wx, Below w.heap.size w wx → ESeg (fun b => b < N) wx x E) := fun wx hb => hx.agree (agree_below (hb.mono hN))
  have HE := hide' hE
  obtain ⟨iE, hiE, hz0, hz1, hz2⟩ := info_parts infoE
  obtain ⟨i3, hi3, hy0, hy1, hy2⟩ := info_parts infoI
  obtain ⟨xa, cap, rfl, hlc, hcm, -, -⟩ := hx
  unfold maxLen at hcm
  have hI0 : Hid (LSt w (.cells #[.int .i64 (n : Int), .slice xa E.length cap] 25) (n : Int) (restF E aside 0) (nextL (restF E aside 0) a) (.slice none 0 0) (.slice none 0 0) ((w.alloc (.cells #[.int .i64 (n : Int), .slice xa E.length cap] 25)).alloc (.cells #[.int .i64 (n : Int), .slice none 0 0] 25))) := by
    obtain ⟨h1, h2⟩ := two_boxes w (.cells #[.int .i64 (n : Int), .slice xa E.length cap] 25) (.cells #[.int .i64 (n : Int), .slice none 0 0] 25)
    exact ⟨h1, ((Below.refl _ _).alloc (Nat.le_refl _) _).alloc (by simp) _, h2, EOwn.nil _ _, NOwn.nil _ _⟩
  clear hE
  go_enter Try.func71, Try.ntmps71
  go_wp2_with fail
  go_loopw [10, 11] (fun v i wr => ∃ j : Nat, i = .int .i64 j ∧ j ≤ E.length ∧ ∃ u, Hid (LSt w (.cells #[.int .i64 (n : Int), .slice xa E.length cap] 25) (n : Int) (restF E aside j) (nextL (restF E aside j) a) u v wr)) (fun _ i _ => E.length - (intOf i).toNat)
  case atStart => exact ⟨0, rfl, Nat.zero_le _, _, hI0⟩
  case round =>
    clear hI0
    obtain ⟨j, rfl, hj, u, hF⟩ := hrel
    obtain ⟨h1, h3, h5, h6, h7⟩ := hF.out
    obtain ⟨g0, g1, -⟩ := row2 h1
    obtain ⟨r0, r1, -⟩ := row2 h5
    obtain ⟨ua, uc, rfl⟩ := h6.form
    obtain ⟨va, vc, rfl⟩ := h7.form
    have hfl := restF_len E aside j
    have hnl := nextL_len (restF E aside j) a
    have hR : w.heap.size + 1 < wr.heap.size := (Array.getElem?_eq_some_iff.1 h5).1
    by_cases hjl : j < E.length
    · have hjl' : (j : Int) < (E.length : Int) := by omega
      obtain ⟨eb, off, rfl, hbN, q0, q1⟩ := (HX.out wr h3).at hjl
      have hrs := restF_succ E aside j hjl
      by_cases c0 : (j : Int) = aside
      · rw [if_pos c0, List.append_nil] at hrs
        have HN : Hid (LSt w (.cells #[.int .i64 (n : Int), .slice (some ⟨eb, off, none⟩) E.length cap] 25) (n : Int) (restF E aside (j + 1)) (nextL (restF E aside (j + 1)) a) (.slice ua (restF E aside j).length uc) (.slice va (nextL (restF E aside j) a).length vc) wr) := by rw [hrs]; exact hF.out
        clear hF h1 h5 h6 h7 hrs q0 q1
        subst c0
        generalize (restF E (j : Int) j).length = fn at *
        generalize (nextL (restF E (j : Int) j) a).length = qn at *
        go_wp2
        go_roundw
        case rel => exact ⟨j + 1, by go_num, by omega, _, HN⟩
        case measure => simp [intOf]; omega
      · rw [if_neg c0] at hrs
        have c0' : ((j : Int) == aside) = false := by simpa using c0
        have HOw : Hid (∀ o, (wr.alloc o).ownsRow (w.heap.size + 2) 36 2 (.slice ua (restF E aside j).length uc) (restF E aside j).length (eC (restF E aside j))) := fun o => World.ownsRow.alloc h6 o
        have HAd : Hid (∀ o1 g cp w6, w6.ownsRow (w.heap.size + 2) 36 2 (.slice (some ⟨g, 0, none⟩) ((restF E aside j).length + 1) cp) ((restF E aside j).length + 1) (eC (restF E aside j) ++ [.int .i64 E[j].1, .int .i64 E[j].2]) → (wr.alloc o1).grownBy w6 (Value.slice ua (restF E aside j).length uc).ownBlock → (w6.cell? ⟨w.heap.size + 1, 1, none⟩ = some (.slice ua (restF E aside j).length uc) ∧ w6.frozen? ⟨w.heap.size + 1, 1, none⟩ = false) ∧ LSt w (.cells #[.int .i64 (n : Int), .slice (some ⟨eb, off, none⟩) E.length cap] 25) (n : Int) (restF E aside (j + 1)) (nextL (restF E aside j) a) (.slice (some ⟨g, 0, none⟩) ((restF E aside j).length + 1) cp) (.slice va (nextL (restF E aside j) a).length vc) (w6.setCell ⟨w.heap.size + 1, 1, none⟩ (.slice (some ⟨g, 0, none⟩) ((restF E aside j).length + 1) cp))) := fun o1 g cp w6 k1 k2 => by
          have := lSt_edge (e := E[j]) hF.out k1 k2
          rw [hrs]
          exact this
        have hna := nextL_add (restF E aside j) E[j] a
        rw [← hrs] at hna
        have G1o : ∀ o, (wr.alloc o).cell? ⟨w.heap.size, 1, none⟩ = some (.slice (some ⟨eb, off, none⟩) E.length cap) := fun o => (World.cell?_of_block (Below.heap_alloc wr o w.heap.size (by omega))).trans g1
        have R1o : ∀ o, (wr.alloc o).cell? ⟨w.heap.size + 1, 1, none⟩ = some (.slice ua (restF E aside j).length uc) := fun o => (World.cell?_of_block (Below.heap_alloc wr o (w.heap.size + 1) (by omega))).trans r1
        have Q0o : ∀ o, (wr.alloc o).cell? ⟨eb, off + j * 2, none⟩ = some (.int .i64 E[j].1) := fun o => (World.cell?_of_block (Below.heap_alloc wr o eb (by omega))).trans q0
        have Q1o : ∀ o, (wr.alloc o).cell? ⟨eb, off + j * 2 + 1, none⟩ = some (.int .i64 E[j].2) := fun o => (World.cell?_of_block (Below.heap_alloc wr o eb (by omega))).trans q1
        clear hF h1 h5 h6 h7 hrs
        generalize hfn : (restF E aside j).length = fn at *
        generalize hqn : (nextL (restF E aside j) a).length = qn at *
        generalize hef : E[j].1 = ef at *
        generalize het : E[j].2 = et at *
        go_wp2_with fail
        go_region_law (first
          | (refine step_append_lies _ (by rfl) (.tmp 28) (.tmp 34) 23 (by rfl) (w.heap.size + 2) 36 iE _ 2 16 Try.underlying23 hiE hz0 hz1 hz2 rfl (by decide) (.slice ua fn uc) fn (eC (restF E aside j)) (by rfl) (by first | exact HOw.out _ | exact (HOw.out _).drew) ⟨wr.heap.size, 0, none⟩ 1 1 [.int .i64 ef, .int .i64 et] (by rfl) (by rfl) (World.news_of_block (cs := #[.int .i64 ef, .int .i64 et]) (t := 36) (fr := (0, 0)) (heap_alloc_new wr _)) (by simp [Value.oneCell']) (by omega) (by unfold maxLen; omega) (by omega) (by simp; omega) (wr.heap.size + 1) (by simp) ?_; intro g6 cp6 w6 hown6 hg6 hat6 hlt6; have hg7 : (wr.alloc (.cells #[.int .i64 ef, .int .i64 et] 36)).grownBy w6 (Value.slice ua fn uc).ownBlock := ⟨hg6.os, hg6.tape, hg6.output, hg6.size, hg6.block⟩; obtain ⟨⟨s1, s2⟩, hF6⟩ := HAd.out _ _ _ _ hown6 hg7; replace hF6 := hide' hF6; clear hown6 hg6 hg7 hat6 hlt6))
        all_goals
          obtain ⟨k1, k3, k5, k6, k7⟩ := hF6.out
          obtain ⟨g0', g1', -⟩ := row2 k1
          obtain ⟨eb', off', e', _, q0', q1'⟩ := (HX.out _ k3).at hjl
          simp only [Option.some.injEq, Addr.mk.injEq, and_true] at e'
          obtain ⟨rfl, rfl⟩ := e'
          rw [hef] at q0'
          rw [het] at q1'
          have hsz6 : (w6.setCell ⟨w.heap.size + 1, 1, none⟩ (.slice (some ⟨g6, 0, none⟩) (fn + 1) cp6)).heap.size = w6.heap.size := by simp [World.setCell]
          have hR6 : w.heap.size + 2 ≤ w6.heap.size := by
            have := (Array.getElem?_eq_some_iff.1 k5).1
            rw [hsz6] at this
            omega
          clear q0 q1 g0 g1 r0 r1 G1o R1o Q0o Q1o HAd HOw
          by_cases c1 : ef = a
          · rw [if_pos c1] at hna
            rw [c1] at q0'
            have HOw2 : Hid (∀ o, ((w6.setCell ⟨w.heap.size + 1, 1, none⟩ (.slice (some ⟨g6, 0, none⟩) (fn + 1) cp6)).alloc o).ownsRow (w.heap.size + 2) 3 1 (.slice va qn vc) qn (iC (nextL (restF E aside j) a))) := fun o => by
              have := World.ownsRow.alloc k7 o
              rw [hqn] at this
              exact this
            have HNx : Hid (∀ o1 g cp w7, w7.ownsRow (w.heap.size + 2) 3 1 (.slice (some ⟨g, 0, none⟩) (qn + 1) cp) (qn + 1) (iC (nextL (restF E aside j) a) ++ [.int .i64 et]) → ((w6.setCell ⟨w.heap.size + 1, 1, none⟩ (.slice (some ⟨g6, 0, none⟩) (fn + 1) cp6)).alloc o1).grownBy w7 (Value.slice va qn vc).ownBlock → LSt w (.cells #[.int .i64 (n : Int), .slice (some ⟨eb, off, none⟩) E.length cap] 25) (n : Int) (restF E aside (j + 1)) (nextL (restF E aside (j + 1)) a) (.slice (some ⟨g6, 0, none⟩) (fn + 1) cp6) (.slice (some ⟨g, 0, none⟩) (qn + 1) cp) w7) := fun o1 g cp w7 m1 m2 => by
              have hF7 := hF6.out
              rw [← hqn] at m1 m2 hF7
              have := lSt_num (x := et) hF7 m1 m2
              rw [hna, ← hqn]
              exact this
            clear hF6 k1 k3 k5 k6 k7
            go_wp2_with (at_builtin; refine wpList_append_lies _ rfl (.tmp 45) (.tmp 52) 27 (by rfl) (w.heap.size + 2) 3 i3 (.int .i64 0) 1 8 Try.underlying27 hi3 hy0 hy1 hy2 rfl (by decide) (.slice va qn vc) qn (iC (nextL (restF E aside j) a)) (by rfl) (HOw2.out _) ⟨w6.heap.size, 0, none⟩ 1 1 [.int .i64 et] (by rfl) (by rfl) (by have hnb := World.news_of_block (cs := #[.int .i64 et]) (t := 3) (fr := (0, 0)) (heap_alloc_new (w6.setCell ⟨w.heap.size + 1, 1, none⟩ (.slice (some ⟨g6, 0, none⟩) (fn + 1) cp6)) (.cells #[.int .i64 et] 3)); rw [hsz6] at hnb; exact hnb) (by simp [Value.oneCell']) (by omega) (by unfold maxLen; omega) (by omega) (by simp [World.setCell]; omega) (w6.heap.size + 1) (by simp [World.setCell]) ?_; intro g8 cp8 w8 hown8 hg8 hat8 hlt8; replace hown8 := hide' (HNx.out _ _ _ _ hown8 hg8); clear hg8 hat8 hlt8)
            go_wp2
            go_roundw
            case rel => exact ⟨j + 1, by go_num, by omega, _, hown8⟩
            case measure => simp [intOf]; omega
          · rw [if_neg c1, List.append_nil] at hna
            have c1' : (ef == a) = false := by simpa using c1
            have HN : Hid (LSt w (.cells #[.int .i64 (n : Int), .slice (some ⟨eb, off, none⟩) E.length cap] 25) (n : Int) (restF E aside (j + 1)) (nextL (restF E aside (j + 1)) a) (.slice (some ⟨g6, 0, none⟩) (fn + 1) cp6) (.slice va qn vc) (w6.setCell ⟨w.heap.size + 1, 1, none⟩ (.slice (some ⟨g6, 0, none⟩) (fn + 1) cp6))) := by rw [hna]; exact hF6.out
            clear hF6 k1 k3 k5 k6 k7
            go_wp2
            go_roundw
            case rel => exact ⟨j + 1, by go_num, by omega, _, HN⟩
            case measure => simp [intOf]; omega
    · have hjl' : ¬ (j : Int) < (E.length : Int) := by omega
      obtain rfl : j = E.length := by omega
      have HC := hide' (l9reach_any wr.heap.size n _ _ (restF E aside E.length) (nextL (restF E aside E.length) a) wr h6.read h7.read (Nat.le_refl _) hn (restF_in HE.out aside) (nextL_in (restF_in HE.out aside) a))
      have hld : Hid (leadsF n E a b aside = decide (b ∈ reachF n (restF E aside E.length) (nextL (restF E aside E.length) a))) := rfl
      have hll := reachF_len n (restF E aside E.length) (nextL (restF E aside E.length) a)
      have H3 := hide' h3
      clear hF h1 h3 h5 h6 h7
      generalize hfn : (restF E aside E.length).length = fn at *
      generalize hqn : (nextL (restF E aside E.length) a).length = qn at *
      generalize reachF n (restF E aside E.length) (nextL (restF E aside E.length) a) = l at *
      go_wp2_with fail
      refine HC.out.mono ?_
      rintro e w5 ⟨ul, rfl, hL, b5⟩
      have HL := hide' hL.read
      obtain ⟨la, lc, rfl⟩ := hL.form
      have HB := hide' (Below.on H3.out b5)
      clear hL b5 HC g0 g1 r0 r1
      go_wp2_with fail
      go_loopw [13] (fun i wz => wz = w5 ∧ ∃ k : Nat, i = .int .i64 k ∧ k ≤ l.length ∧ Hid (∀ p (h : p < l.length), p < k → ¬ l[p] = b)) (fun i _ => l.length - (intOf i).toNat)
      case atStart => exact ⟨rfl, 0, rfl, Nat.zero_le _, fun p h h' => by omega⟩
      case round =>
        obtain ⟨rfl, k, rfl, hk, hno⟩ := hrel
        by_cases hlt : k < l.length
        · have hlt' : (k : Int) < (l.length : Int) := by omega
          obtain ⟨lb, lo, rfl, _, z0⟩ := HL.out.at hlt
          by_cases c : l[k] = b
          · have HF : Hid (leadsF n E a b aside = true) := by show _ = _; rw [hld.out, decide_eq_true_eq, ← c]; exact List.getElem_mem hlt
            rw [c] at z0
            go_wp2
            go_ret
            exact ⟨ret_bool HF.out.symm, HB.out⟩
          · have HF : Hid (∀ p (h : p < l.length), p < k + 1 → ¬ l[p] = b) := fun p h h' => by
              by_cases e : p = k
              · subst e; exact c
              · exact hno.out p h (by omega)
            have c' : (l[k] == b) = false := by simpa using c
            clear hno c
            generalize l[k] = lv at *
            go_wp2
            go_roundw
            case rel => exact ⟨trivial, k + 1, by go_num, by omega, HF⟩
            case measure => simp [intOf]; omega
        · have hlt' : ¬ (k : Int) < (l.length : Int) := by omega
          have HF : Hid (leadsF n E a b aside = false) := by
            show _ = _
            rw [hld.out, decide_eq_false_iff_not]
            intro hm
            obtain ⟨i, hi, e⟩ := List.getElem_of_mem hm
            exact hno.out i hi (by omega) e
          go_wp2
          go_ret
          exact ⟨ret_bool HF.out.symm, HB.out⟩
end Go.Proofs.Ytpnohgncnmbkdaa
/-
  Leads of the specification.
-/
namespace Go.Proofs.Ytpnohgncnmbkdaa
open Go.RowKit
set_option linter.unusedVariables false
set_option linter.unusedSimpArgs false

/-- What Leads answers. -/
def leadsB (n : Int) (E : List Edg) (a b : Int) : Bool := gB n E && (decide (0 ≤ a) && (decide (a < n) && (decide (0 ≤ b) && (decide (b < n) && leadsF n.toNat E a b (-1)))))

theorem spec_l9leads (N : Nat) (n : Int) (x : Value) (E : List Edg) (a b aside : Int) (w : World) (hx : ESeg (fun b => b < N) w x E) (hN : N ≤ w.heap.size) (hg : gB n E = true) :
    Calls Try.prog 71 #[.agg #[.int .i64 n, x], .int .i64 a, .int .i64 b, .int .i64 aside] w fun e w' => e = .returned (.bool (leadsF n.toNat E a b aside)) ∧ Below w.heap.size w w' := by
  obtain ⟨h0, h1, h2, _⟩ := gB_iff.1 hg
  obtain ⟨m, rfl⟩ : ∃ m : Nat, n = (m : Int) := ⟨n.toNat, by omega⟩
  have := l9leads_any N m x E a b aside w hx hN (by omega) (g_in hg) h2
  simpa using this

set_option maxHeartbeats 3200000 in
set_option maxRecDepth 100000 in
theorem spec_Leads_any (N : Nat) (n : Int) (x : Value) (E : List Edg) (a b : Int) (w : World) (hx : ESeg (fun b => b < N) w x E) (hN : N ≤ w.heap.size) :
    Calls Try.prog 41 #[.agg #[.int .i64 n, x], .int .i64 a, .int .i64 b] w fun e w' => e = .returned (.bool (leadsB n E a b)) ∧ Below w.heap.size w w' := by
  have HX : Hid (∀ wx, Below w.heap.size w wx → ESeg (fun b => b < N) wx x E) := fun wx hb => hx.agree (agree_below (hb.mono hN))
  have Hb : Hid (∀ o : Obj, Below w.heap.size w (w.alloc o)) := fun o => (Below.refl _ _).alloc (Nat.le_refl _) o
  have Hbox : Hid (∀ o wx, Below (w.alloc o).heap.size (w.alloc o) wx → wx.heap[w.heap.size]? = some o) := fun o wx h => box_row h
  have HG : Hid (∀ wx, Below w.heap.size w wx → Calls Try.prog 17 #[.agg #[.int .i64 n, x]] wx fun e w' => e = .returned (.bool (gB n E)) ∧ Below wx.heap.size wx w') := fun wx hb => spec_GraphOk_any N n x E wx (HX.out wx hb) (by have := hb.size; omega)
  have HL : Hid (gB n E = true → ∀ wx, Below w.heap.size w wx → Calls Try.prog 71 #[.agg #[.int .i64 n, x], .int .i64 a, .int .i64 b, .int .i64 (-1)] wx fun e w' => e = .returned (.bool (leadsF n.toNat E a b (-1))) ∧ Below wx.heap.size wx w') := fun hg wx hb => spec_l9leads N n x E a b (-1) wx (HX.out wx hb) (by have := hb.size; omega) hg
  obtain ⟨xa, cap, rfl, -⟩ := hx
  obtain ⟨R, hR⟩ : ∃ R, R = leadsB n E a b := ⟨_, rfl⟩
  rw [← hR]
  cases hg : gB n E with
  | false =>
    have HF : Hid (R = false) := by show _ = _; rw [hR]; simp [leadsB, hg]
    rw [hg] at HG
    clear hR HX HL hg
    generalize E.length = ll at *
    go_enter Try.func41, Try.ntmps41
    go_wp2_with fail
    refine (HG.out _ (Hb.out _)).mono ?_
    rintro e w1 ⟨rfl, b1⟩
    have B1 := hide' (Below.on (Hb.out _) b1)
    clear b1
    go_wp2
    go_ret
    exact ⟨ret_bool HF.out.symm, B1.out⟩
  | true =>
    have HL' := hide' (HL.out hg)
    have HR : Hid (R = (decide (0 ≤ a) && (decide (a < n) && (decide (0 ≤ b) && (decide (b < n) && leadsF n.toNat E a b (-1)))))) := by show _ = _; rw [hR]; simp [leadsB, hg]
    rw [hg] at HG
    clear hR HX HL hg
    generalize leadsF n.toNat E a b (-1) = ld at *
    generalize E.length = ll at *
    by_cases hin : 0 ≤ a ∧ a < n ∧ 0 ≤ b ∧ b < n
    · obtain ⟨c0, c1, c2, c3⟩ := hin
      have HF : Hid (R = ld) := by show _ = _; rw [HR.out]; simp [c0, c1, c2, c3]
      clear HR
      go_enter Try.func41, Try.ntmps41
      go_wp2_with fail
      refine (HG.out _ (Hb.out _)).mono ?_
      rintro e w1 ⟨rfl, b1⟩
      obtain ⟨g0, g1, -⟩ := row2 (Hbox.out _ _ b1)
      have B1 := hide' (Below.on (Hb.out _) b1)
      have HC := hide' (HL'.out w1 B1.out)
      clear b1
      go_wp2_with fail
      refine HC.out.mono ?_
      rintro e w2 ⟨rfl, b2⟩
      have B2 := hide' (Below.on B1.out b2)
      clear b2 HC
      go_wp2
      go_ret
      exact ⟨ret_bool HF.out.symm, B2.out⟩
    · have HF : Hid (R = false) := by
        show _ = _
        rw [HR.out]
        by_cases c0 : 0 ≤ a <;> by_cases c1 : a < n <;> by_cases c2 : 0 ≤ b <;> by_cases c3 : b < n <;> simp [c0, c1, c2, c3]
        exact absurd ⟨c0, c1, c2, c3⟩ hin
      clear HR
      have hcase : ¬ 0 ≤ a ∨ (0 ≤ a ∧ ¬ a < n) ∨ (0 ≤ a ∧ a < n ∧ ¬ 0 ≤ b) ∨ (0 ≤ a ∧ a < n ∧ 0 ≤ b ∧ ¬ b < n) := by omega
      clear hin
      rcases hcase with c0 | ⟨c0, c1⟩ | ⟨c0, c1, c2⟩ | ⟨c0, c1, c2, c3⟩
      all_goals
        go_enter Try.func41, Try.ntmps41
        go_wp2_with fail
        refine (HG.out _ (Hb.out _)).mono ?_
        rintro e w1 ⟨rfl, b1⟩
        obtain ⟨g0, g1, -⟩ := row2 (Hbox.out _ _ b1)
        have B1 := hide' (Below.on (Hb.out _) b1)
        clear b1
        go_wp2
        go_ret
        exact ⟨ret_bool HF.out.symm, B1.out⟩
end Go.Proofs.Ytpnohgncnmbkdaa
/-
  Graphs: the order, as l9order reckons it; plain mathematics.
-/
namespace Go.Proofs.Ytpnohgncnmbkdaa
open Go.RowKit
set_option linter.unusedVariables false
set_option linter.unusedSimpArgs false

/-- One edge does not bar v: it does not come to v, or it comes from one that is told. -/
def barB (dn : List Bool) (v : Nat) (e : Edg) : Bool := !(decide (e.2 = (v : Int))) || bAt dn e.1
/-- v is not told, and none of these edges bars it. -/
def freeD (E : List Edg) (dn : List Bool) (v : Nat) : Bool := !(dn.getD v false) && E.all (barB dn v)
/-- The least of v, v + 1 .. (k of them) that f holds of; -1: none. -/
def lF (f : Nat → Bool) : Nat → Nat → Int
  | 0, _ => -1
  | k + 1, v => if f v = true then (v : Int) else lF f k (v + 1)
/-- The rounds of l9order. -/
def ordD (E : List Edg) (n : Nat) : Nat → List Bool → List Int → List Int
  | 0, _, out => out
  | k + 1, dn, out => if lF (freeD E dn) n 0 < 0 then out else ordD E n k (dn.set (lF (freeD E dn) n 0).toNat true) (out ++ [lF (freeD E dn) n 0])
/-- What l9order answers. -/
def ordR (n : Nat) (E : List Edg) : List Int := ordD E n (n + 1) (List.replicate n false) []

theorem freeD_succ (E : List Edg) (dn : List Bool) (v j : Nat) (h : j < E.length) : freeD (E.take (j + 1)) dn v = (freeD (E.take j) dn v && barB dn v E[j]) := by
  unfold freeD
  rw [List.take_succ_eq_append_getElem h, List.all_append, Bool.and_assoc]
  simp
theorem freeD_zero (E : List Edg) (dn : List Bool) (v : Nat) : freeD (E.take 0) dn v = !(dn.getD v false) := by simp [freeD]
theorem lF_cases (f : Nat → Bool) : ∀ k v, lF f k v = -1 ∨ ∃ u : Nat, lF f k v = (u : Int) ∧ v ≤ u ∧ u < v + k ∧ f u = true
  | 0, v => .inl rfl
  | k + 1, v => by
    unfold lF
    by_cases h : f v = true
    · rw [if_pos h]
      exact .inr ⟨v, rfl, Nat.le_refl _, by omega, h⟩
    · rw [if_neg h]
      rcases lF_cases f k (v + 1) with e | ⟨u, e, h1, h2, h3⟩
      · exact .inl e
      · exact .inr ⟨u, e, by omega, by omega, h3⟩
theorem lF_step (f : Nat → Bool) (n c : Nat) (hc : c + 1 ≤ n) : lF f (n - c) c = if f c = true then (c : Int) else lF f (n - (c + 1)) (c + 1) := by
  have e : n - c = n - (c + 1) + 1 := by omega
  rw [e]
  rfl
theorem ordD_stop {E : List Edg} {n k : Nat} {dn : List Bool} {out : List Int} (h : lF (freeD E dn) n 0 < 0) : ordD E n (k + 1) dn out = out := by
  show (if _ then _ else _) = _
  rw [if_pos h]
theorem ordD_next {E : List Edg} {n k u : Nat} {dn : List Bool} {out : List Int} (h : lF (freeD E dn) n 0 = (u : Int)) : ordD E n (k + 1) dn out = ordD E n k (dn.set u true) (out ++ [(u : Int)]) := by
  show (if _ then _ else _) = _
  rw [h, if_neg (by omega)]
  simp
theorem free_not {E : List Edg} {dn : List Bool} {v : Nat} (h : freeD E dn v = true) : dn.getD v false = false := by
  unfold freeD at h
  rw [Bool.and_eq_true] at h
  simpa using h.1
theorem cnt_repl (n : Nat) : cntB (List.replicate n false) = 0 := by
  unfold cntB
  rw [List.count_replicate]
  simp
end Go.Proofs.Ytpnohgncnmbkdaa
/-
  l9order of the specification.
-/
namespace Go.Proofs.Ytpnohgncnmbkdaa
open Go.RowKit
set_option linter.unusedVariables false
set_option linter.unusedSimpArgs false

set_option maxHeartbeats 6400000 in
set_option maxRecDepth 100000 in
theorem l9order_any (N n : Nat) (x : Value) (E : List Edg) (w : World) (hx : ESeg (fun b => b < N) w x E) (hN : N ≤ w.heap.size) (hn : n ≤ 20) (hE : InG n E) :
    Calls Try.prog 67 #[.agg #[.int .i64 (n : Int), x]] w fun e w' => ∃ u, e = .returned u ∧ NOwn w' w.heap.size u (ordR n E) ∧ Below w.heap.size w w' := by
  have HX := hide' hx
  have HE := hide' hE
  obtain ⟨a, cap, rfl, hlc, hcm, -, -⟩ := hx
  unfold maxLen at hcm
  obtain ⟨i0, hi, hz0, hz1, hz2⟩ := info_parts infoB
  obtain ⟨i3, hi3, hy0, hy1, hy2⟩ := info_parts infoI
  have hnn : (0 : Int) ≤ (n : Int) := by omega
  have hn20 : (n : Int) ≤ 20 := by omega
  clear hE
  go_enter Try.func67, Try.ntmps67
  go_wp2_with (refine wpList_make_full _ rfl _ _ 41 rfl (w.heap.size + 1) 4 i0 (.bool false) 1 Try.underlying41 hi hz0 hz1 .i64 .i64 _ _ n rfl rfl rfl rfl (by rw [hz2]; omega) (by unfold maxLen; omega) (by simp) ?_; intro w1 hown hgrow)
  have hS0 := rSt_made hown hgrow
  have hI0 : Hid (RSt w (.cells #[.int .i64 (n : Int), .slice a E.length cap] 25) (List.replicate n false) w1 ∧ NOwn w1 (w.heap.size + 2) (.slice none 0 0) [] ∧ (List.replicate n false).length = n ∧ ([] : List Int).length = cntB (List.replicate n false) ∧ n - cntB (List.replicate n false) < n + 1 ∧ ordD E n (n + 1) (List.replicate n false) [] = ordR n E) := ⟨hS0, NOwn.nil _ _, by simp, by rw [cnt_repl]; rfl, by omega, rfl⟩
  clear hown hgrow hS0
  go_wp2_with fail
  go_loopw [4] (fun u wr => ∃ (dn : List Bool) (out : List Int) (k : Nat), Hid (RSt w (.cells #[.int .i64 (n : Int), .slice a E.length cap] 25) dn wr ∧ NOwn wr (w.heap.size + 2) u out ∧ dn.length = n ∧ out.length = cntB dn ∧ n - cntB dn < k ∧ ordD E n k dn out = ordR n E) ∧ ∃ ua uc, u = .slice ua (cntB dn) uc) (fun u _ => n - (match u with | .slice _ q _ => q | _ => 0))
  case atStart => exact ⟨_, _, _, hI0, none, 0, by rw [cnt_repl]⟩
  case round =>
    clear hI0
    obtain ⟨dn, out, k, hI, ua, uc, rfl⟩ := hrel
    obtain ⟨hS, hO, hdl, hol, hk, hor⟩ := hI.out
    have hcl := cnt_le dn
    rw [hdl] at hcl
    obtain ⟨kk, rfl⟩ : ∃ kk, k = kk + 1 := ⟨k - 1, by omega⟩
    obtain ⟨g0, g1, -⟩ := row2 hS.2.1
    have HS := hide' hS
    have HO := hide' hO
    have HOr := hide' hor
    clear hS hO hor hI
    generalize hf : freeD E dn = f at *
    have Hf := hide' hf
    clear hf
    have h00 : Hid (lF f (n - n) n = -1) := by show _ = _; rw [Nat.sub_self]; rfl
    have hn1 : IntKind.i64.wrap ((n : Int) - 1) = (n : Int) - 1 := by rw [IntKind.wrap_i64]; omega
    go_wp2_with fail
    go_loopw [5, 6] (fun nx v wz => wz = wr ∧ ∃ c : Nat, c ≤ n ∧ v = .int .i64 ((c : Int) - 1) ∧ nx = .int .i64 (lF f (n - c) c)) (fun _ v _ => (intOf v + 1).toNat)
    case atStart => exact ⟨rfl, n, Nat.le_refl _, rfl, by rw [h00.out]⟩
    case round =>
      clear h00
      obtain ⟨rfl, c, hc, rfl, rfl⟩ := hrel
      by_cases hc0 : c = 0
      · subst hc0
        have hc0' : ¬ (0 : Int) ≤ ((0 : Nat) : Int) - 1 := by omega
        simp only [Nat.sub_zero] at *
        rcases lF_cases f n 0 with e | ⟨u, e, _, hu, hfu⟩
        · rw [e]
          have HFin : Hid (out = ordR n E) := by
            show _ = _
            rw [← HOr.out, ordD_stop (by rw [Hf.out, e]; omega)]
          have HE2 := hide' (And.intro (HO.out.down (base' := w.heap.size) (by omega)) HS.out.2.2.1)
          go_wp2
          go_ret
          exact ⟨_, rfl, by rw [← HFin.out]; exact HE2.out.1, HE2.out.2⟩
        · rw [e]
          have hu' : u < n := by omega
          obtain ⟨r0, r1⟩ := HS.out.1.at (m := u) (by omega)
          have hnf := free_not (E := E) (dn := dn) (v := u) (by rw [Hf.out]; exact hfu)
          have hcs := (cnt_set dn u).2 (by omega) hnf
          have hcl2 := cnt_le (dn.set u true)
          have hol2 : cntB dn < n := by
            rw [hcs, List.length_set] at hcl2
            omega
          have hSt := hide' (HS.out.set u true)
          have hzr : w.heap.size + 2 ≤ wr.heap.size := HS.out.2.2.2
          have HOw : Hid (∀ o, ((wr.setCell ⟨w.heap.size + 1, u, none⟩ (.bool true)).alloc o).ownsRow (w.heap.size + 2) 3 1 (.slice ua (cntB dn) uc) (cntB dn) (iC out)) := fun o => by
            have h1 := World.ownsRow.alloc (HO.out.far (grown1 wr (w.heap.size + 1) u (.bool true)) (fun q hq => by have := (HO.out.lt q hq).1; simp; omega)) o
            rw [hol] at h1
            exact h1
          have HNx : Hid (∀ o g cp w6, w6.ownsRow (w.heap.size + 2) 3 1 (.slice (some ⟨g, 0, none⟩) (cntB dn + 1) cp) (cntB dn + 1) (iC out ++ [.int .i64 (u : Int)]) → ((wr.setCell ⟨w.heap.size + 1, u, none⟩ (.bool true)).alloc o).grownBy w6 (Value.slice ua (cntB dn) uc).ownBlock → RSt w (.cells #[.int .i64 (n : Int), .slice a E.length cap] 25) (dn.set u true) w6 ∧ NOwn w6 (w.heap.size + 2) (.slice (some ⟨g, 0, none⟩) (cntB dn + 1) cp) (out ++ [(u : Int)])) := fun o g cp w6 h1 h2 => by
            refine ⟨(hSt.out.grown (World.grownBy_alloc _ o none) (by simp)).grown h2 (fun q hq => (HO.out.lt q hq).1), ?_⟩
            unfold NOwn
            rw [iC_add, List.length_append, hol]
            exact h1
          have HNe : Hid (ordD E n kk (dn.set u true) (out ++ [(u : Int)]) = ordR n E) := by
            show _ = _
            rw [← HOr.out, ordD_next (by rw [Hf.out]; exact e)]
          have hm1 : (0 : Int) ≤ (u : Int) := by omega
          have hm2 : (u : Int) < (n : Int) := by omega
          have hm3 : ¬ (u : Int) < 0 := by omega
          have hszr : (wr.setCell ⟨w.heap.size + 1, u, none⟩ (.bool true)).heap.size = wr.heap.size := by simp [World.setCell]
          clear HS HO HOr hnf hSt g0 g1
          generalize dn.getD u false = bb at *
          generalize hcd : cntB dn = cd at *
          go_wp2_with (at_builtin; refine wpList_append_lies _ rfl (.tmp 59) (.tmp 61) 27 (by rfl) (w.heap.size + 2) 3 i3 (.int .i64 0) 1 8 Try.underlying27 hi3 hy0 hy1 hy2 rfl (by decide) (.slice ua cd uc) cd (iC out) (by rfl) (HOw.out _) ⟨wr.heap.size, 0, none⟩ 1 1 [.int .i64 (u : Int)] (by rfl) (by rfl) (by have hnb := World.news_of_block (cs := #[.int .i64 (u : Int)]) (t := 3) (fr := (0, 0)) (heap_alloc_new (wr.setCell ⟨w.heap.size + 1, u, none⟩ (.bool true)) (.cells #[.int .i64 (u : Int)] 3)); rw [hszr] at hnb; exact hnb) (by simp [Value.oneCell']) (by omega) (by unfold maxLen; omega) (by omega) (by simp [World.setCell]; omega) (wr.heap.size + 1) (by simp [World.setCell]) ?_; intro g6 cp6 w6 hown6 hg6 hat6 hlt6; replace hown6 := hide' (HNx.out _ _ _ _ hown6 hg6); clear hg6 hat6 hlt6)
          go_wp2
          go_roundw
          case rel => exact ⟨dn.set u true, out ++ [(u : Int)], kk, ⟨hown6.out.1, hown6.out.2, by rw [List.length_set]; exact hdl, by rw [List.length_append, hol, hcs]; rfl, by rw [hcs]; omega, HNe.out⟩, _, _, by rw [hcs]⟩
          case measure => simp; omega
      · obtain ⟨v, rfl⟩ : ∃ v, c = v + 1 := ⟨c - 1, by omega⟩
        have hv0 : ((v + 1 : Nat) : Int) - 1 = (v : Int) := by omega
        rw [hv0]
        have hv1 : (0 : Int) ≤ (v : Int) := by omega
        have hv2 : (v : Int) < (n : Int) := by omega
        have hv3 : IntKind.i64.wrap ((v : Int) - 1) = (v : Int) - 1 := by rw [IntKind.wrap_i64]; omega
        obtain ⟨r0, r1⟩ := HS.out.1.at (m := v) (by omega)
        have hst := lF_step f n v (by omega)
        have hfv : f v = freeD (E.take E.length) dn v := by rw [← Hf.out, List.take_length]
        have h0f : Hid (freeD (E.take 0) dn v = !(dn.getD v false)) := freeD_zero E dn v
        generalize hnx : lF f (n - (v + 1)) (v + 1) = nx at *
        generalize hdv : dn.getD v false = dv at *
        go_wp2_with fail
        go_loopw [7, 8] (fun fr i wz => wz = wr ∧ ∃ j : Nat, j ≤ E.length ∧ i = .int .i64 j ∧ fr = .bool (freeD (E.take j) dn v)) (fun _ i _ => E.length - (intOf i).toNat)
        case atStart => exact ⟨rfl, 0, Nat.zero_le _, rfl, by rw [h0f.out]⟩
        case round =>
          obtain ⟨rfl, j, hj, rfl, rfl⟩ := hrel
          by_cases hjl : j < E.length
          · have hjl' : (j : Int) < (E.length : Int) := by omega
            have hag := agree_below (HS.out.2.2.1.mono hN)
            obtain ⟨b, off, rfl, _, q0, q1⟩ := (HX.out.agree hag).at hjl
            have he := HE.out E[j] (List.getElem_mem hjl)
            obtain ⟨m, hm⟩ : ∃ m : Nat, E[j].1 = (m : Int) := ⟨E[j].1.toNat, by omega⟩
            have hfs := freeD_succ E dn v j hjl
            have hbar : barB dn v E[j] = (!(decide (E[j].2 = (v : Int))) || dn.getD m false) := by unfold barB; rw [hm, bAt_nat]
            rw [hbar] at hfs
            obtain ⟨s0, s1⟩ := HS.out.1.at (m := m) (by omega)
            rw [hm] at q0
            have hm1 : (0 : Int) ≤ (m : Int) := by omega
            have hm2 : (m : Int) < (n : Int) := by omega
            clear hag hbar he hm
            generalize E[j].2 = et at *
            by_cases c1 : et = (v : Int)
            · subst c1
              cases hdm : dn.getD m false with
              | true =>
                rw [hdm] at s0 hfs
                have hF : Hid (freeD (E.take (j + 1)) dn v = freeD (E.take j) dn v) := by show _ = _; rw [hfs]; simp
                clear hfs
                go_wp2
                go_roundw
                case rel => exact ⟨trivial, j + 1, by omega, by go_num, by rw [hF.out]⟩
                case measure => simp [intOf]; omega
              | false =>
                rw [hdm] at s0 hfs
                have hF : Hid (freeD (E.take (j + 1)) dn v = false) := by show _ = _; rw [hfs]; simp
                clear hfs
                go_wp2
                go_roundw
                case rel => exact ⟨trivial, j + 1, by omega, by go_num, by rw [hF.out]⟩
                case measure => simp [intOf]; omega
            · have c1' : (et == (v : Int)) = false := by simpa using c1
              have hF : Hid (freeD (E.take (j + 1)) dn v = freeD (E.take j) dn v) := by show _ = _; rw [hfs]; simp [c1]
              clear hfs
              go_wp2
              go_roundw
              case rel => exact ⟨trivial, j + 1, by omega, by go_num, by rw [hF.out]⟩
              case measure => simp [intOf]; omega
          · have hjl' : ¬ (j : Int) < (E.length : Int) := by omega
            obtain rfl : j = E.length := by omega
            rw [← hfv]
            cases hfc : f v with
            | true =>
              have hF : Hid (lF f (n - v) v = (v : Int)) := by show _ = _; rw [hst, if_pos hfc]
              go_wp2
              go_roundw
              case rel => exact ⟨trivial, v, by omega, rfl, by rw [hF.out]⟩
              case measure => simp [intOf]
            | false =>
              have hF : Hid (lF f (n - v) v = nx) := by show _ = _; rw [hst, if_neg (by rw [hfc]; simp)]
              go_wp2
              go_roundw
              case rel => exact ⟨trivial, v, by omega, rfl, by rw [hF.out]⟩
              case measure => simp [intOf]
end Go.Proofs.Ytpnohgncnmbkdaa
/-
  Order of the specification.
-/
namespace Go.Proofs.Ytpnohgncnmbkdaa
open Go.RowKit
set_option linter.unusedVariables false
set_option linter.unusedSimpArgs false

/-- Is there an order? -/
def ordB (n : Int) (E : List Edg) : Bool := gB n E && decide (n.toNat ≤ (ordR n.toNat E).length)
/-- What Order answers beside it. -/
def ordA (n : Int) (E : List Edg) : List Int := if ordB n E = true then ordR n.toNat E else []

theorem ordR_len (n : Nat) (E : List Edg) : (ordR n E).length ≤ n := by
  have key : ∀ k dn out, dn.length = n → out.length = cntB dn → (ordD E n k dn out).length ≤ n := by
    intro k
    induction k with
    | zero =>
      intro dn out h1 h2
      have := cnt_le dn
      show out.length ≤ n
      omega
    | succ k ih =>
      intro dn out h1 h2
      rcases lF_cases (freeD E dn) n 0 with e | ⟨u, e, _, hu, hfu⟩
      · rw [ordD_stop (by rw [e]; omega)]
        have := cnt_le dn
        omega
      · rw [ordD_next e]
        refine ih _ _ (by simp [h1]) ?_
        rw [List.length_append, (cnt_set dn u).2 (by omega) (free_not hfu), h2]
        rfl
  exact key _ _ _ (by simp) (by rw [cnt_repl]; rfl)

theorem spec_l9order (N : Nat) (n : Int) (x : Value) (E : List Edg) (w : World) (hx : ESeg (fun b => b < N) w x E) (hN : N ≤ w.heap.size) (hg : gB n E = true) :
    Calls Try.prog 67 #[.agg #[.int .i64 n, x]] w fun e w' => ∃ u, e = .returned u ∧ NOwn w' w.heap.size u (ordR n.toNat E) ∧ Below w.heap.size w w' := by
  obtain ⟨h0, h1, _⟩ := gB_iff.1 hg
  obtain ⟨m, rfl⟩ : ∃ m : Nat, n = (m : Int) := ⟨n.toNat, by omega⟩
  have := l9order_any N m x E w hx hN (by omega) (g_in hg)
  simpa using this

/-- What Order leaves. -/
def OrEnd (n : Int) (E : List Edg) (w : World) (e : Ending) (w' : World) : Prop := ∃ u, e = .returned (.tuple #[u, .bool (ordB n E)]) ∧ NOwn w' w.heap.size u (ordA n E) ∧ Below w.heap.size w w'

set_option maxHeartbeats 3200000 in
set_option maxRecDepth 100000 in
theorem spec_Order_any (N : Nat) (n : Int) (x : Value) (E : List Edg) (w : World) (hx : ESeg (fun b => b < N) w x E) (hN : N ≤ w.heap.size) :
    Calls Try.prog 30 #[.agg #[.int .i64 n, x]] w (OrEnd n E w) := by
  have HX : Hid (∀ wx, Below w.heap.size w wx → ESeg (fun b => b < N) wx x E) := fun wx hb => hx.agree (agree_below (hb.mono hN))
  have Hb : Hid (∀ o : Obj, Below w.heap.size w (w.alloc o)) := fun o => (Below.refl _ _).alloc (Nat.le_refl _) o
  have Hbox : Hid (∀ o wx, Below (w.alloc o).heap.size (w.alloc o) wx → wx.heap[w.heap.size]? = some o) := fun o wx h => box_row h
  have HG : Hid (∀ wx, Below w.heap.size w wx → Calls Try.prog 17 #[.agg #[.int .i64 n, x]] wx fun e w' => e = .returned (.bool (gB n E)) ∧ Below wx.heap.size wx w') := fun wx hb => spec_GraphOk_any N n x E wx (HX.out wx hb) (by have := hb.size; omega)
  have HOo : Hid (gB n E = true → ∀ wx, Below w.heap.size w wx → Calls Try.prog 67 #[.agg #[.int .i64 n, x]] wx fun e w' => ∃ u, e = .returned u ∧ NOwn w' wx.heap.size u (ordR n.toNat E) ∧ Below wx.heap.size wx w') := fun hg wx hb => spec_l9order N n x E wx (HX.out wx hb) (by have := hb.size; omega) hg
  obtain ⟨a, cap, rfl, -⟩ := hx
  show Calls _ _ _ _ fun e w' => ∃ u, e = .returned (.tuple #[u, .bool (ordB n E)]) ∧ NOwn w' w.heap.size u (ordA n E) ∧ Below w.heap.size w w'
  by_cases hg : gB n E = true
  rotate_left
  · have hg' : gB n E = false := by simpa using hg
    have hb0 : ordB n E = false := by simp [ordB, hg']
    have ha0 : ordA n E = [] := by simp [ordA, hb0]
    rw [hg'] at HG
    rw [hb0, ha0]
    clear HX HOo hg hg' hb0 ha0
    generalize E.length = ll at *
    go_enter Try.func30, Try.ntmps30
    go_wp2_with fail
    refine (HG.out _ (Hb.out _)).mono ?_
    rintro e w1 ⟨rfl, b1⟩
    have B1 := hide' (Below.on (Hb.out _) b1)
    clear b1
    go_wp2
    go_ret2
    exact ⟨_, rfl, NOwn.nil _ _, B1.out⟩
  have HO2 := hide' (HOo.out hg)
  obtain ⟨hn0, hn1, -⟩ := gB_iff.1 hg
  have hlen := ordR_len n.toNat E
  have hob : ordB n E = decide (n.toNat ≤ (ordR n.toNat E).length) := by simp [ordB, hg]
  have hoa : ordA n E = if ordB n E = true then ordR n.toNat E else [] := rfl
  rw [hg] at HG
  clear HX HOo hg
  generalize ordR n.toNat E = l at *
  by_cases hle : n.toNat ≤ l.length
  · have hb1 : ordB n E = true := by rw [hob]; simpa using hle
    rw [hb1] at hoa
    rw [hb1, hoa]
    have hle' : ¬ (l.length : Int) < n := by omega
    clear hob hoa hb1
    generalize E.length = ll at *
    go_enter Try.func30, Try.ntmps30
    go_wp2_with fail
    refine (HG.out _ (Hb.out _)).mono ?_
    rintro e w1 ⟨rfl, b1⟩
    have B1 := hide' b1
    obtain ⟨g0, g1, -⟩ := row2 (Hbox.out _ _ b1)
    have HC := hide' (HO2.out w1 (Below.on (Hb.out _) b1))
    clear b1
    go_wp2_with fail
    refine HC.out.mono ?_
    rintro e w2 ⟨u, rfl, hO, b2⟩
    have B2 := hide' (Below.on B1.out b2)
    obtain ⟨ua, uc, rfl⟩ := hO.form
    have hz : w.heap.size ≤ w1.heap.size := (Below.on (Hb.out _) B1.out).size
    have HO := hide' (hO.down hz)
    obtain ⟨g0, g1, -⟩ := row2 (Hbox.out _ _ B2.out)
    clear hO b2 HC
    go_wp2
    go_ret2
    exact ⟨_, rfl, HO.out, Below.on (Hb.out _) B2.out⟩
  · have hb1 : ordB n E = false := by rw [hob]; simpa using hle
    rw [hb1] at hoa
    rw [hb1, hoa]
    have hle' : (l.length : Int) < n := by omega
    clear hob hoa hb1
    generalize E.length = ll at *
    go_enter Try.func30, Try.ntmps30
    go_wp2_with fail
    refine (HG.out _ (Hb.out _)).mono ?_
    rintro e w1 ⟨rfl, b1⟩
    have B1 := hide' b1
    obtain ⟨g0, g1, -⟩ := row2 (Hbox.out _ _ b1)
    have HC := hide' (HO2.out w1 (Below.on (Hb.out _) b1))
    clear b1
    go_wp2_with fail
    refine HC.out.mono ?_
    rintro e w2 ⟨u, rfl, hO, b2⟩
    have B2 := hide' (Below.on B1.out b2)
    obtain ⟨ua, uc, rfl⟩ := hO.form
    obtain ⟨g0, g1, -⟩ := row2 (Hbox.out _ _ B2.out)
    clear hO b2 HC
    go_wp2
    go_ret2
    exact ⟨_, rfl, NOwn.nil _ _, Below.on (Hb.out _) B2.out⟩
end Go.Proofs.Ytpnohgncnmbkdaa
