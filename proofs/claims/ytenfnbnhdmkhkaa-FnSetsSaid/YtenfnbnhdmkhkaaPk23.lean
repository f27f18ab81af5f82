/-
  Texts that a law leans on, one behind the other; no statement is proved here.
-/
import Derived.Test.YtenfnbnhdmkhkaaPk20
import Derived.Sort.KeysCollected
import Derived.Maps.RangeWalk
import Derived.Maps.AppendAt
import Derived.Sort.OwnSorted
/-
  A map of parts as its datum: the entries in the order of the keys.
-/
namespace Go.Proofs.Ytenfnbnhdmkhkaa
open Go.RowKit
set_option linter.unusedVariables false
set_option linter.unusedSimpArgs false

theorem before_eq : ∀ a b : List UInt8, bytesBefore a b = Op.bytesLess a b
  | [], [] => rfl
  | [], _ :: _ => rfl
  | _ :: _, [] => rfl
  | x :: a, y :: b => by
    have ih := before_eq a b
    unfold bytesBefore Op.bytesLess
    rw [ih]

/-- The key at place i is behind the one ahead of it. -/
def upB (ks : List (List Int)) (i : Nat) : Bool := i == 0 || ltS (ks.getD (i - 1) []) (ks.getD i [])
theorem step_up {ks : List (List Int)} {n : Nat} (h : ∀ i, i < n → stepB ks i = true) : ∀ i, i < n → upB ks i = true := by
  intro i hi
  have h1 := h i hi
  simp only [stepB, Bool.and_eq_true] at h1
  exact h1.2

/-- Keys that ascend one by one ascend. -/
theorem asc_ltU {vK : List (List Int)} {k : Nat} (h : ∀ i, i < k → upB vK i = true) : ∀ j, j < k → ∀ i, i < j → Op.bytesLess (u8s (vK.getD i [])) (u8s (vK.getD j [])) = true := by
  intro j
  induction j with
  | zero => intro _ i hi; omega
  | succ j ih =>
    intro hj i hi
    have hs := h (j + 1) hj
    have h1 : Op.bytesLess (u8s (vK.getD j [])) (u8s (vK.getD (j + 1) [])) = true := by
      unfold upB at hs
      have h2 := hs
      rw [Nat.add_sub_cancel] at h2
      have e : (j + 1 == 0) = false := by simp
      rw [e, Bool.false_or] at h2
      exact h2
    by_cases e : i = j
    · rw [e]; exact h1
    · exact less_trans _ _ _ (ih (by omega) i (by omega)) h1

theorem asc_lt {vK : List (List Int)} {k : Nat} (h : ∀ i, i < k → stepB vK i = true) : ∀ j, j < k → ∀ i, i < j → Op.bytesLess (u8s (vK.getD i [])) (u8s (vK.getD j [])) = true := asc_ltU (step_up h)

theorem less_ne {a b : List UInt8} (h : Op.bytesLess a b = true) : (a == b) = false := by
  rw [beq_eq_false_iff_ne]
  intro e
  rw [e, less_irrefl] at h
  simp at h

theorem less_asymm {a b : List UInt8} (h : Op.bytesLess a b = true) : Op.bytesLess b a = false := by
  cases h2 : Op.bytesLess b a with
  | false => rfl
  | true =>
    have := less_trans _ _ _ h h2
    rw [less_irrefl] at this
    simp at this

theorem insert_last {H : Type} (x : Go.Lit × DataW H) : ∀ l : List (Go.Lit × DataW H), (∀ y ∈ l, x.1.before y.1 = false) → DataW.insert x l = l ++ [x]
  | [], _ => rfl
  | y :: r, h => by
    have h1 := h y (by simp)
    have ih := insert_last x r (fun z hz => h z (by simp [hz]))
    unfold DataW.insert
    rw [h1, ih]
    rfl

/-- The first k entries. -/
def entF (vK : List (List Int)) (ps : List Value) (k : Nat) : List (Go.Lit × DataW Value) := (List.range k).map fun i => (.string (u8s (vK.getD i [])), .held (ps.getD i .nilIface))

theorem mapD_listU (vK : List (List Int)) (ps : List Value) : ∀ k, (∀ i, i < k → upB vK i = true) → mapD vK ps k = .map (entF vK ps k)
  | 0, _ => rfl
  | k + 1, h => by
    have ih := mapD_listU vK ps k (fun i hi => h i (by omega))
    show (mapD vK ps k).put _ _ = _
    rw [ih]
    have hl : ∀ y ∈ entF vK ps k, Op.bytesLess (match y.1 with | .string s => s | _ => []) (u8s (vK.getD k [])) = true ∧ ∃ s, y.1 = .string s := by
      intro y hy
      simp only [entF, List.mem_map, List.mem_range] at hy
      obtain ⟨i, hi, rfl⟩ := hy
      exact ⟨asc_ltU h k (by omega) i hi, _, rfl⟩
    have hf : (entF vK ps k).filter (fun p => !p.1.sameKey (.string (u8s (vK.getD k [])))) = entF vK ps k := by
      rw [List.filter_eq_self]
      intro y hy
      obtain ⟨h1, s, hs⟩ := hl y hy
      rw [hs] at h1 ⊢
      show (!(s == u8s (vK.getD k []))) = true
      rw [less_ne h1]
      rfl
    show DataW.map (DataW.insert _ ((entF vK ps k).filter _)) = _
    rw [hf, insert_last _ _ (fun y hy => by
      obtain ⟨h1, s, hs⟩ := hl y hy
      rw [hs] at h1 ⊢
      show bytesBefore _ _ = false
      rw [before_eq]
      exact less_asymm h1)]
    simp [entF, List.range_succ]
theorem mapD_list (vK : List (List Int)) (ps : List Value) (k : Nat) (h : ∀ i, i < k → stepB vK i = true) : mapD vK ps k = .map (entF vK ps k) := mapD_listU vK ps k (step_up h)
end Go.Proofs.Ytenfnbnhdmkhkaa
/-
  Entries of a map, in whatever order they were met: put in order by their keys they are the one list of the map's entries.
-/
namespace Go.Proofs.Ytenfnbnhdmkhkaa
open Go.RowKit Go.Sort
set_option linter.unusedVariables false
set_option linter.unusedSimpArgs false

/-- What an interface holds. -/
def unI : Value → TypeId × Value
  | .iface t v => (t, v)
  | _ => (0, .nilIface)

abbrev Fd : Type := List UInt8 × (TypeId × Value)

/-- The entries, in the order of the keys. -/
def fieldL (vK : List (List Int)) (ps : List Value) (n : Nat) : List Fd := (List.range n).map fun i => (u8s (vK.getD i []), unI (ps.getD i .nilIface))

theorem length_fieldL (vK : List (List Int)) (ps : List Value) (n : Nat) : (fieldL vK ps n).length = n := by simp [fieldL]
theorem fieldL_at (vK : List (List Int)) (ps : List Value) (n i : Nat) (h : i < n) : (fieldL vK ps n)[i]'(by rw [length_fieldL]; exact h) = (u8s (vK.getD i []), unI (ps.getD i .nilIface)) := by simp [fieldL]

theorem key_inj {vK : List (List Int)} {n : Nat} (h : ∀ i, i < n → upB vK i = true) {i j : Nat} (hi : i < n) (hj : j < n) (e : u8s (vK.getD i []) = u8s (vK.getD j [])) : i = j := by
  rcases Nat.lt_trichotomy i j with hlt | heq | hgt
  · have := asc_ltU h j hj i hlt
    rw [e, less_irrefl] at this
    simp at this
  · exact heq
  · have := asc_ltU h i hi j hgt
    rw [e, less_irrefl] at this
    simp at this

theorem find_ent (vK : List (List Int)) (ps : List Value) (k : List UInt8) : ∀ (l : List Nat) (i : Nat), i ∈ l → u8s (vK.getD i []) = k → (∀ j ∈ l, u8s (vK.getD j []) = k → j = i) →
    (l.map fun i => ((.string (u8s (vK.getD i [])), .held (ps.getD i .nilIface)) : Go.Lit × DataW Value)).find? (fun p => p.1.sameKey (.string k)) = some (.string k, .held (ps.getD i .nilIface))
  | [], i, h, _, _ => by simp at h
  | j :: l, i, h, e, hu => by
    simp only [List.map_cons, List.find?_cons]
    by_cases hj : u8s (vK.getD j []) = k
    · have := hu j (by simp) hj
      subst this
      rw [hj]
      simp [Lit.sameKey]
    · have hf : (Lit.string (u8s (vK.getD j []))).sameKey (.string k) = false := by simpa [Lit.sameKey] using hj
      rw [hf]
      have hi : i ∈ l := by
        rcases List.mem_cons.1 h with rfl | h
        · exact absurd e hj
        · exact h
      exact find_ent vK ps k l i hi e (fun q hq => hu q (by simp [hq]))

theorem at_ent {vK : List (List Int)} {ps : List Value} {n : Nat} (h : ∀ i, i < n → upB vK i = true) {i : Nat} (hi : i < n) (zd : DataW Value) : (DataW.map (entF vK ps n)).atKey (.string (u8s (vK.getD i []))) zd = .held (ps.getD i .nilIface) := by
  have := find_ent vK ps (u8s (vK.getD i [])) (List.range n) i (by simpa using hi) rfl (fun j hj e => key_inj h (by simpa using hj) hi e)
  unfold entF DataW.atKey
  simp only
  rw [this]

/-- Met in whatever order. -/
def Met (D : DataW Value) (es : List Fd) : Prop := ∀ x ∈ es, ∀ zd, D.atKey (.string x.1) zd = .held (.iface x.2.1 x.2.2)

theorem strKeys_ent (vK : List (List Int)) (ps : List Value) (n : Nat) : Go.strKeys (DataW.map (entF vK ps n)) = (fieldL vK ps n).map (·.1) := by
  simp [Go.strKeys, entF, fieldL, Go.strOf, Function.comp_def]

theorem met_eq {vK : List (List Int)} {ps : List Value} {n : Nat} (h : ∀ i, i < n → upB vK i = true) {es : List Fd} (hm : Met (DataW.map (entF vK ps n)) es) {x : Fd} (hx : x ∈ es) {i : Nat} (hi : i < n) (e : x.1 = u8s (vK.getD i [])) : x = (u8s (vK.getD i []), unI (ps.getD i .nilIface)) := by
  have h1 := hm x hx .nil
  rw [e, at_ent h hi] at h1
  simp only [DataW.held.injEq] at h1
  obtain ⟨x1, x2, x3⟩ := x
  simp only at e h1
  rw [h1, e]
  rfl

theorem nodup_of_map {α β : Type} (f : α → β) {l : List α} (h : (l.map f).Nodup) : l.Nodup := (List.pairwise_map.1 h).imp fun hne e => hne (congrArg f e)

theorem met_perm {vK : List (List Int)} {ps : List Value} {n : Nat} (h : ∀ i, i < n → upB vK i = true) {es : List Fd} (hm : Met (DataW.map (entF vK ps n)) es) (hp : (es.map (·.1)).Perm (Go.strKeys (DataW.map (entF vK ps n)))) : es.Perm (fieldL vK ps n) := by
  rw [strKeys_ent] at hp
  have hnd : ((fieldL vK ps n).map (·.1)).Nodup := by
    rw [List.nodup_iff_pairwise_ne, List.pairwise_map, fieldL, List.pairwise_map]
    refine List.Pairwise.imp_of_mem ?_ (List.nodup_range (n := n))
    intro a b ha hb hne e
    exact hne (key_inj h (by simpa using ha) (by simpa using hb) e)
  have hn1 : (fieldL vK ps n).Nodup := nodup_of_map _ hnd
  have hn2 : es.Nodup := nodup_of_map _ (hp.nodup_iff.2 hnd)
  refine (List.perm_ext_iff_of_nodup hn2 hn1).2 fun x => ⟨fun hx => ?_, fun hx => ?_⟩
  · have h1 : x.1 ∈ (fieldL vK ps n).map (·.1) := hp.mem_iff.1 (List.mem_map.2 ⟨x, hx, rfl⟩)
    obtain ⟨y, hy, e⟩ := List.mem_map.1 h1
    simp only [fieldL, List.mem_map, List.mem_range] at hy
    obtain ⟨i, hi, rfl⟩ := hy
    rw [met_eq h hm hx hi e.symm]
    simp only [fieldL, List.mem_map, List.mem_range]
    exact ⟨i, hi, rfl⟩
  · have h1 : x.1 ∈ es.map (·.1) := hp.mem_iff.2 (List.mem_map.2 ⟨x, hx, rfl⟩)
    obtain ⟨y, hy, e⟩ := List.mem_map.1 h1
    simp only [fieldL, List.mem_map, List.mem_range] at hx
    obtain ⟨i, hi, rfl⟩ := hx
    rw [← met_eq h hm hy hi e]
    exact hy

/-- What is in order and a permutation of the entries is the list of the entries. -/
theorem sorted_eq {vK : List (List Int)} {ps : List Value} {n : Nat} (h : ∀ i, i < n → upB vK i = true) (d d' : Array Fd) (hd : d.toList.Perm (fieldL vK ps n)) (hp : PermIn 0 d.size d d') (hs : SortedIn ltF 0 d.size d') : d'.toList = fieldL vK ps n := by
  have hsz : d'.size = d.size := hp.1
  have hp2 : d'.toList.Perm d.toList := by
    have := hp.2.2
    rw [Array.extract_eq_self_of_le (by omega), Array.extract_eq_self_of_le (by omega)] at this
    exact this
  have hP := hp2.trans hd
  refine List.Perm.eq_of_pairwise (le := fun x y => ltF y x = false) ?_ ?_ ?_ hP
  · intro a b ha hb h1 h2
    have ha' : a ∈ fieldL vK ps n := hP.mem_iff.1 ha
    simp only [fieldL, List.mem_map, List.mem_range] at ha' hb
    obtain ⟨i, hi, rfl⟩ := ha'
    obtain ⟨j, hj, rfl⟩ := hb
    have e := less_total _ _ h2 h1
    have := key_inj h hi hj e
    rw [this]
  · rw [List.pairwise_iff_getElem]
    intro i j hi hj hij
    have := hs i j (Nat.zero_le _) hij (by rw [← hsz]; simpa using hj)
    rw [getElem!_pos d' i (by simpa using hi), getElem!_pos d' j (by simpa using hj)] at this
    simpa using this
  · rw [fieldL, List.pairwise_map]
    refine List.Pairwise.imp_of_mem ?_ (List.pairwise_lt_range (n := n))
    intro a b ha hb hlt
    exact less_asymm (asc_ltU h b (by simpa using hb) a hlt)
end Go.Proofs.Ytenfnbnhdmkhkaa
/-
  sort.Slice as the program's fields calls it, walked by the shelf's contract: what it leaves is a permutation, ascending by the keys.
-/
namespace Go.Proofs.Ytenfnbnhdmkhkaa
open Go.Shelf Go.RowKit Go.Lib Go.Sort
set_option linter.unusedVariables false
set_option linter.unusedSimpArgs false
set_option maxRecDepth 100000

theorem infoFT : (Try.prog.info? 87).isSome = true := by kernel_rfl
theorem infoFE : (Try.prog.info? 89).isSome = true := by kernel_rfl

theorem sort_fields (blk off c Bs : Nat) (d : Array (List UInt8 × (TypeId × Value))) (h2 : 2 ≤ d.size) (hsz : d.size < 4611686018427387904) (w : World) (hH : HoldsK encF 2 w blk off d) (hblk : blk < w.heap.size)
    (hBs : w.cell? ⟨Bs, 0, none⟩ = some (.slice (some ⟨blk, off, none⟩) d.size c)) (hB1 : Bs < w.heap.size) (hB2 : Bs ≠ blk) :
    Calls Try.prog 60 #[.iface 87 (.slice (some ⟨blk, off, none⟩) d.size c), .func (.func 61) #[] #[.pointer (some ⟨Bs, 0, none⟩)]] w fun e w' =>
      e = .returned (.tuple #[]) ∧ ∃ d' n os, PermIn 0 d.size d d' ∧ SortedIn ltF 0 d.size d' ∧ w' = grow (putRowK encF 2 (Sort.ahead w n) blk off d') os := by
  have hless : LessReadsK Try.prog 61 #[.pointer (some ⟨Bs, 0, none⟩)] encF 2 ltF blk off d.size w := by
    intro m os dk hs i j hi hj
    have e : sortWorldK encF 2 w blk off m dk os = putRowK encF 2 (grow (Sort.ahead w m) os) blk off dk := by
      unfold sortWorldK; rw [putRowK_grow _ _ (Sort.ahead w m) _ blk off _ hblk]
    have hHg : HoldsK encF 2 (grow (Sort.ahead w m) os) blk off d := holdsK_grow _ _ _ _ blk off d hblk (holdsK_ahead _ _ _ _ _ _ _ hH)
    refine fields_less blk off c Bs d.size _ (fun t => dk[t]!.1) ?_ (fun t ht => ?_) i j hi hj (by omega)
    · rw [e, cell?_putRowK_other _ _ _ blk off dk _ (by exact hB2), cell?_grow _ _ _ (by exact hB1)]; exact hBs
    · rw [e]; exact ((holdsK_putRowK _ _ _ blk off d dk hHg hs).cell (i := t) (c := 0) (by omega) (by omega)).1
  have hk9 : ∀ ie, Try.prog.info? 89 = some ie → Lib.swapperK d.size ie 25 = 9 := by
    intro ie hie
    have a : ((Try.prog.info? 89).map fun i => (i.hasPointers, i.bytes)) = some (true, 32) := by kernel_rfl
    rw [hie] at a
    simp at a
    have c : (d.size == 0) = false := by rw [beq_eq_false_iff_ne]; omega
    have d' : (d.size == 1) = false := by rw [beq_eq_false_iff_ne]; omega
    simp [Lib.swapperK, a.1, a.2, c, d']
  obtain ⟨iT, hiT⟩ := Option.isSome_iff_exists.1 infoFT
  obtain ⟨iE, hiE⟩ := Option.isSome_iff_exists.1 infoFE
  have hdT : iT.desc = .slice 89 := by
    have a : ((Try.prog.info? 87).map fun i => i.desc) = some (.slice 89) := by kernel_rfl
    rw [hiT] at a
    simpa using a
  have hsE : iE.size = 2 := by
    have a : ((Try.prog.info? 89).map fun i => i.size) = some 2 := by kernel_rfl
    rw [hiE] at a
    simpa using a
  exact Any.sort_Slice_cells_sorted Try.laysGg6 87 89 iT iE hiT hdT (by kernel_rfl) hiE 25 (fun _ => by kernel_rfl) encF 2 (fun _ => rfl) hsE (fun _ => by kernel_rfl)
    (fun x v hv => by simp [encF] at hv; rcases hv with rfl | rfl <;> rfl) ltF swo_ltF 61 _
    (enters_of Try.func61 (by kernel_rfl) rfl) blk off c d h2 hsz 83 (by rw [hk9 _ hiE]; kernel_rfl) false
    (fun args W => run_callFunc_extern Try.func83 (by kernel_rfl) (by kernel_rfl) (by kernel_rfl) (e := Extern.ReflectliteSwapper.swap false) (by kernel_rfl) args W) w hless hH hblk

theorem swap_none (ie : TypeInfo) : Lib.swapperK 0 ie 25 = 1 := rfl
theorem swap_one (ie : TypeInfo) : Lib.swapperK 1 ie 25 = 2 := rfl
/-- .. at no field or one: nothing that lay turns. -/
theorem sort_tiny (p : Option Addr) (n c Bs : Nat) (h1 : n ≤ 1) (w : World) :
    Calls Try.prog 60 #[.iface 87 (.slice p n c), .func (.func 61) #[] #[.pointer (some ⟨Bs, 0, none⟩)]] w fun e w' => e = .returned (.tuple #[]) ∧ ∃ os, w' = grow w os := by
  obtain ⟨iT, hiT⟩ := Option.isSome_iff_exists.1 infoFT
  obtain ⟨iE, hiE⟩ := Option.isSome_iff_exists.1 infoFE
  have hdT : iT.desc = .slice 89 := by
    have a : ((Try.prog.info? 87).map fun i => i.desc) = some (.slice 89) := by kernel_rfl
    rw [hiT] at a
    simpa using a
  have h01 : n = 0 ∨ n = 1 := by omega
  rcases h01 with rfl | rfl
  · exact Any.sort_Slice_tiny Try.laysGg6 87 89 iT iE hiT hdT (by kernel_rfl) hiE 25 (fun _ => by kernel_rfl) p 0 c h1 75 (by rw [swap_none]; kernel_rfl) _ _ _ w
  · exact Any.sort_Slice_tiny Try.laysGg6 87 89 iT iE hiT hdT (by kernel_rfl) hiE 25 (fun _ => by kernel_rfl) p 1 c h1 76 (by rw [swap_one]; kernel_rfl) _ _ _ w
end Go.Proofs.Ytenfnbnhdmkhkaa
/-
  fields of a map of parts: a row of the call's own with the entries in the order of their keys, whatever order the map gave them in.
-/
namespace Go.Proofs.Ytenfnbnhdmkhkaa
open Go.RowKit Go.Sort
open Go.Proofs (encStr)
set_option linter.unusedVariables false
set_option linter.unusedSimpArgs false

/-- A row with the entries in order. -/
def FRow (w : World) (u : Value) (vK : List (List Int)) (ps : List Value) (n : Nat) : Prop := ∃ a cap, u = .slice a n cap ∧ n ≤ cap ∧ cap ≤ maxLen ∧
  (n = 0 ∨ ∃ g, a = some ⟨g, 0, none⟩ ∧ g < w.heap.size ∧ ∀ i, i < n → w.cell? ⟨g, i * 2, none⟩ = some (.string (strOf (vK.getD i []))) ∧ w.cell? ⟨g, i * 2 + 1, none⟩ = some (ps.getD i .nilIface))

/-- The row's block is one of fields. -/
def FTag (w : World) (u : Value) : Prop := ∀ g n c, u = .slice (some ⟨g, 0, none⟩) n c → ∃ cs fr, w.heap[g]? = some (.cells cs 89 fr)

theorem grownBy_sortK {w : World} {g n : Nat} {os : Array Obj} (d : Array Fd) : w.grownBy (grow (putRowK encF 2 (Sort.ahead w n) g 0 d) os) (some g) := by
  refine ⟨rfl, rfl, rfl, by simp [putRowK], fun k hk hne => ?_⟩
  rw [heap_grow_old _ _ (by simpa [putRowK] using hk)]
  have : g ≠ k := fun e => hne (by rw [e])
  simp [putRowK, putRow, mapBlock, Sort.ahead, Array.getElem?_modify, this]

theorem tag_put {w : World} {g nn : Nat} {cur : Array Value} {T : TypeId} {fr : Nat × Nat} {d : Array Fd} (hb : w.heap[g]? = some (.cells cur T fr)) : ∃ cs fr', (putRowK encF 2 (Sort.ahead w nn) g 0 d).heap[g]? = some (.cells cs T fr') := by
  unfold putRowK putRow mapBlock Sort.ahead
  simp only [Array.getElem?_modify, hb, if_true, Option.map_some]
  exact ⟨_, _, rfl⟩

theorem grownBy_grow {w : World} {os : Array Obj} : w.grownBy (grow w os) none := ⟨rfl, rfl, rfl, by simp, fun k hk _ => heap_grow_old _ _ hk⟩

theorem flat_length (es : List Fd) : (es.flatMap encF).length = es.length * 2 := by
  induction es with
  | nil => rfl
  | cons x es ih => simp [encF, ih]; omega

theorem flat_at : ∀ (es : List Fd) (t : Nat) (h : t / 2 < es.length), (es.flatMap encF)[t]? = some ((encF es[t / 2])[t % 2]!)
  | [], t, h => by simp at h
  | x :: es, t, h => by
    match t with
    | 0 => rfl
    | 1 => rfl
    | t + 2 =>
      have e1 : (t + 2) / 2 = t / 2 + 1 := by omega
      have e2 : (t + 2) % 2 = t % 2 := by omega
      have ih := flat_at es t (by simp at h; omega)
      simp only [e1, e2, List.getElem_cons_succ, List.flatMap_cons]
      rw [← ih]
      rfl

/-- The row of the entries that were met, as the sort wants it. -/
theorem holds_met {w : World} {g : Nat} {cur : Array Value} {e : TypeId} {es : List Fd} (hb : w.heap[g]? = some (.cells cur e (0, 0))) (ht : cur.toList.take (es.length * 2) = es.flatMap encF) : HoldsK encF 2 w g 0 es.toArray := by
  intro j hj
  rw [size_flatK] at hj
  have hj' : j < es.length * 2 := by simpa using hj
  refine ⟨?_, by simp [World.frozen?, hb]⟩
  have h1 : (cur.toList.take (es.length * 2))[j]? = (es.flatMap encF)[j]? := by rw [ht]
  rw [List.getElem?_take_of_lt hj', flat_at es j (by omega)] at h1
  rw [get_flatK _ _ _ _ hj]
  simp only [World.cell?, hb, Nat.zero_add]
  simp only [Option.isSome_none, Bool.false_eq_true, if_false]
  rw [← Array.getElem?_toList, h1]
  have e3 : es.toArray[j / 2]! = es[j / 2]'(by omega) := by
    rw [getElem!_pos es.toArray (j / 2) (by simp; omega)]
    simp
  rw [e3]
  rfl

theorem str_u8s (xs : List Int) : (⟨(u8s xs).toArray⟩ : ByteArray) = strOf xs := rfl
theorem size_ent (vK : List (List Int)) (ps : List Value) (n : Nat) : Maps.size (DataW.map (entF vK ps n)) = n := by simp [Maps.size, entF]

theorem encF_unI {p : Value} (h : ∃ t x, p = .iface t x) : (Value.iface (unI p).1 (unI p).2) = p := by
  obtain ⟨t, x, rfl⟩ := h
  rfl

/-- What is held of the entries, in order, reads as the row. -/
theorem fRow_of {w : World} {g cap n : Nat} {vK : List (List Int)} {ps : List Value} (hc : n ≤ cap) (hm : cap ≤ maxLen) (hg : g < w.heap.size) (hH : HoldsK encF 2 w g 0 (fieldL vK ps n).toArray) (hps : ∀ i, i < n → ∃ t x, ps.getD i .nilIface = .iface t x) : FRow w (.slice (some ⟨g, 0, none⟩) n cap) vK ps n := by
  refine ⟨_, cap, rfl, hc, hm, .inr ⟨g, rfl, hg, fun i hi => ?_⟩⟩
  have hs : i < (fieldL vK ps n).toArray.size := by simp [length_fieldL, hi]
  have e : (fieldL vK ps n).toArray[i]! = (u8s (vK.getD i []), unI (ps.getD i .nilIface)) := by
    rw [getElem!_pos _ i hs]
    simpa using fieldL_at vK ps n i hi
  have h0 := (hH.cell (i := i) (c := 0) hs (by omega)).1
  have h1 := (hH.cell (i := i) (c := 1) hs (by omega)).1
  rw [e] at h0 h1
  refine ⟨by simpa [encF, str_u8s] using h0, ?_⟩
  rw [Nat.zero_add] at h1
  rw [h1]
  show some (Value.iface _ _) = _
  rw [encF_unI (hps i hi)]

theorem infoF : (Try.prog.info? 89).map (fun i => (i.zero, i.size, i.bytes)) = some (some (.agg #[.string ⟨#[]⟩, .nilIface]), 2, 32) := by kernel_rfl

/-- While the map is ranged over. -/
def Ranging (D : DataW Value) (b r q n base : Nat) (w wr : World) (left : Lit → Bool) (cnt : Nat) (es : List Fd) (v : Value) : Prop :=
  wr.ranges Try.prog 9 tokR b r 128 D left cnt ∧ Collected D left (es.map (·.1)) ∧ Met D es ∧ es.length + cnt ≤ n ∧
  wr.heap[q]? = some (.cells #[v] 87 (0, 0)) ∧ wr.ownsRow base 89 2 v es.length (es.flatMap encF) ∧ Below w.heap.size w wr ∧ r < base ∧ q < r ∧ w.heap.size ≤ q ∧ base ≤ wr.heap.size ∧ b < w.heap.size

theorem held_at {vK : List (List Int)} {ps : List Value} {n : Nat} {kl : Lit} {c : Value} (h : ∀ zd, (DataW.map (entF vK ps n)).atKey kl zd = .held c) : ∃ i, i < n ∧ c = ps.getD i .nilIface := by
  have h1 := h .nil
  unfold DataW.atKey at h1
  simp only at h1
  split at h1
  · next p hp =>
    have hm := List.mem_of_find?_eq_some hp
    simp only [entF, List.mem_map, List.mem_range] at hm
    obtain ⟨i, hi, rfl⟩ := hm
    simp only [DataW.held.injEq] at h1
    exact ⟨i, hi, h1.symm⟩
  · simp at h1

theorem cell_two_new (w : World) (a b : Value) (T : TypeId) : ∀ j u, [a, b][j]? = some u → (w.alloc (.cells #[a, b] T)).cell? ((⟨w.heap.size, 0, none⟩ : Addr).add j) = some u := by
  intro j u hu
  rw [Addr.add_lit, Nat.zero_add, cell_of_row (w.alloc (.cells #[a, b] T)) w.heap.size j #[a, b] T (0, 0) (MapKept.heap_alloc w _).1]
  simpa using hu

/-- Nothing is left: the sort puts in order what was met. -/
theorem sort_met {vK : List (List Int)} {ps : List Value} {n b r q base cnt : Nat} {w wr : World} {left : Lit → Bool} {es : List Fd} {v : Value} (h : Ranging (DataW.map (entF vK ps n)) b r q n base w wr left cnt es v) (hl : ∀ kl, left kl = false) (ha : ∀ i, i < n → upB vK i = true) (hps : ∀ i, i < n → ∃ t x, ps.getD i .nilIface = .iface t x) (hn : n ≤ 100) :
    Calls Try.prog 60 #[.iface 87 v, .func (.func 61) #[] #[.pointer (some ⟨q, 0, none⟩)]] wr fun e w' => e = .returned (.tuple #[]) ∧ w'.cell? ⟨q, 0, none⟩ = some v ∧ Hid ((FRow w' v vK ps n ∧ FTag w' v) ∧ Below w.heap.size w w') := by
  obtain ⟨hrg, hC, hM, hcs, hq, hrow, hbel, hrb, hqb, hwq, hbs, hwr⟩ := h
  have hP := met_perm ha hM (hC.perm hrg.owns (Maps.string_keyed Try.underlying9) Try.underlying9 hl)
  have hlen : es.length = n := by rw [hP.length_eq, length_fieldL]
  have hqc : wr.cell? ⟨q, 0, none⟩ = some v := by rw [cell_of_row wr q 0 _ _ (0, 0) hq]; rfl
  have hqlt : q < wr.heap.size := by omega
  by_cases h1 : n ≤ 1
  · have hsh : ∃ p c, v = .slice p n c := by
      rcases hrow.2 with ⟨rfl, h0⟩ | ⟨g, cap, cur, rfl, _⟩
      · exact ⟨none, 0, by rw [← hlen, h0]⟩
      · exact ⟨_, _, by rw [hlen]⟩
    obtain ⟨p, c, rfl⟩ := hsh
    refine (sort_tiny p n c q h1 wr).mono ?_
    rintro e w' ⟨rfl, os, rfl⟩
    refine ⟨rfl, by rw [cell?_grow _ _ _ hqlt]; exact hqc, ?_, hbel.grown (grownBy_grow (os := os)) hbel.size (by simp)⟩
    rcases hrow.2 with ⟨h0, hz⟩ | ⟨g, cap, cur, h0, hg, hb, hle, hcm, hsz, ht⟩
    · simp only [Value.slice.injEq] at h0
      obtain ⟨rfl, hz1, rfl⟩ := h0
      exact ⟨⟨none, 0, rfl, by omega, Nat.zero_le _, .inl hz1⟩, fun g n c e => by simp at e⟩
    · simp only [Value.slice.injEq] at h0
      obtain ⟨rfl, _, rfl⟩ := h0
      have hgl : g < wr.heap.size := (Array.getElem?_eq_some_iff.1 hb).1
      have hes : es = fieldL vK ps n := by
        rcases Nat.lt_or_ge n 1 with hlt | hge
        · have e1 : es = [] := List.eq_nil_of_length_eq_zero (by omega)
          have e2 : fieldL vK ps n = [] := List.eq_nil_of_length_eq_zero (by rw [length_fieldL]; omega)
          rw [e1, e2]
        · obtain ⟨x, hx⟩ := List.length_eq_one_iff.1 (show (fieldL vK ps n).length = 1 by rw [length_fieldL]; omega)
          rw [hx] at hP ⊢
          exact List.perm_singleton.1 hP
      have hH := holds_met hb ht
      rw [hes] at hH
      refine ⟨fRow_of (by omega) hcm (by simp; omega) (holdsK_grow _ _ _ _ g 0 _ hgl hH) hps, fun g' n' c' e => ?_⟩
      simp only [Value.slice.injEq, Option.some.injEq, Addr.mk.injEq] at e
      obtain ⟨⟨rfl, _⟩, _⟩ := e
      exact ⟨_, _, (heap_grow_old _ _ hgl).trans hb⟩
  · rcases hrow.2 with ⟨rfl, hz⟩ | ⟨g, cap, cur, rfl, hg, hb, hle, hcm, hsz, ht⟩
    · omega
    · have hgl : g < wr.heap.size := (Array.getElem?_eq_some_iff.1 hb).1
      have hH := holds_met hb ht
      have hds : es.toArray.size = n := by simp [hlen]
      have hqg : q ≠ g := by omega
      have hqc' : wr.cell? ⟨q, 0, none⟩ = some (.slice (some ⟨g, 0, none⟩) es.toArray.size cap) := by rw [hqc]; simp
      have hc := sort_fields g 0 cap q es.toArray (by omega) (by omega) wr hH hgl hqc' hqlt hqg
      rw [show es.toArray.size = es.length by simp] at hc
      refine hc.mono ?_
      rintro e w' ⟨rfl, d', nn, os, hp, hsrt, rfl⟩
      have hd' : d'.toList = fieldL vK ps n := sorted_eq ha es.toArray d' (by simpa using hP) (by simpa using hp) (by simpa using hsrt)
      have hd2 : d' = (fieldL vK ps n).toArray := by rw [← hd']
      have hsz' : d'.size = es.toArray.size := by rw [hp.1]
      have hH' : HoldsK encF 2 (grow (putRowK encF 2 (Sort.ahead wr nn) g 0 d') os) g 0 d' := holdsK_grow _ _ _ _ g 0 _ (by simpa [putRowK] using hgl) (holdsK_putRowK _ _ _ g 0 es.toArray d' (holdsK_ahead _ _ _ _ _ _ _ hH) hsz')
      refine ⟨rfl, ?_, ?_, hbel.grown (grownBy_sortK d') hbel.size (by intro j hj; simp at hj; omega)⟩
      · rw [cell?_grow _ _ _ (by simpa [putRowK] using hqlt), cell?_putRowK_other _ _ _ g 0 d' _ hqg]
        exact hqc
      · rw [hd2] at hH' ⊢
        rw [hlen] at hle ⊢
        refine ⟨fRow_of hle hcm (by simpa [putRowK] using Nat.lt_of_lt_of_le hgl (Nat.le_add_right _ _)) hH' hps, fun g' n' c' e => ?_⟩
        simp only [Value.slice.injEq, Option.some.injEq, Addr.mk.injEq] at e
        obtain ⟨⟨rfl, _⟩, _⟩ := e
        obtain ⟨cs', fr', ht'⟩ := tag_put (nn := nn) (d := (fieldL vK ps n).toArray) hb
        exact ⟨cs', fr', (heap_grow_old _ _ (by simpa [putRowK] using hgl)).trans ht'⟩

/-- An entry has come. -/
theorem ranging_next {D : DataW Value} {b r q n base cnt cnt2 : Nat} {w wr w2 w3 : World} {left : Lit → Bool} {es : List Fd} {v v' : Value} {x : List UInt8} {t : TypeId} {cx : Value} {o : Obj} (h : Ranging D b r q n base w wr left cnt es v) (hlk : left (.string x) = true) (hat : ∀ zd, D.atKey (.string x) zd = .held (.iface t cx))
    (hrg2 : w2.ranges Try.prog 9 tokR b r 128 D (fun z => left z && !z.sameKey (.string x)) cnt2) (hlt : cnt2 < cnt) (hg2 : wr.grownBy w2 (some r)) (hown : w3.ownsRow base 89 2 v' (es.length + 1) (es.flatMap encF ++ [encStr x, .iface t cx])) (hg3 : (w2.alloc o).grownBy w3 v.ownBlock) :
    w3.heap[q]? = some (.cells #[v] 87 (0, 0)) ∧ Ranging D b r q n base w (w3.setCell ⟨q, 0, none⟩ v') (fun z => left z && !z.sameKey (.string x)) cnt2 (es ++ [(x, (t, cx))]) v' := by
  obtain ⟨hrg, hC, hM, hcs, hq, hrow, hbel, hrb, hqr, hwq, hbs, hbw⟩ := h
  have hs2 := hg2.size
  have hs3 := hg3.size
  have hsa : (w2.alloc o).heap.size = w2.heap.size + 1 := by simp
  have hrow2 : w2.ownsRow base 89 2 v es.length (es.flatMap encF) := hrow.kept hg2 (Or.inr (row_ne_iter hrow hrg).symm)
  have hq2 : w2.heap[q]? = some (.cells #[v] 87 (0, 0)) := (hg2.block q (by omega) (by simp; omega)).trans hq
  have hq2' : (w2.alloc o).heap[q]? = some (.cells #[v] 87 (0, 0)) := (Below.heap_alloc _ _ _ (by omega)).trans hq2
  have hq3 : w3.heap[q]? = some (.cells #[v] 87 (0, 0)) := (hg3.block q (by omega) (row_ne_low hrow2 (by omega))).trans hq2'
  have g1 := grown1 w3 q 0 v'
  refine ⟨hq3, ?_, ?_, ?_, by simp; omega, heap_setCell_same w3 q 0 _ _ v' hq3, ?_, ?_, hrb, hqr, hwq, ?_, hbw⟩
  · exact ((hrg2.alloc o).kept hg3 (row_ne_low hrow2 (by omega)) (row_ne_iter hrow2 hrg2)).kept g1 (by simp; omega) (by simp; omega)
  · have := hC.step hlk hat
    simpa using this
  · intro y hy zd
    rcases List.mem_append.1 hy with hy | hy
    · exact hM y hy zd
    · simp at hy
      subst hy
      exact hat zd
  · have := hown.kept g1 (Or.inr (row_ne_low hown (by omega)).symm)
    simpa [encF, encStr] using this
  · refine ((((hbel.grown hg2 hbel.size (by intro j hj; simp at hj; omega)).alloc (by have := hbel.size; omega) o).grown hg3 (by have := hbel.size; omega) ?_).grown g1 (by have := hbel.size; omega) (by intro j hj; simp at hj; omega))
    intro j hj
    have := (hrow2.lt j hj).1
    omega
  · simp [World.setCell]
    omega

/-- .. and what the store into the variable leans on. -/
theorem ranging_store {D : DataW Value} {b r q n base cnt cnt2 : Nat} {w wr w2 w3 : World} {left : Lit → Bool} {es : List Fd} {v v' : Value} {x : List UInt8} {t : TypeId} {cx : Value} {o : Obj} (h : Ranging D b r q n base w wr left cnt es v) (hlk : left (.string x) = true) (hat : ∀ zd, D.atKey (.string x) zd = .held (.iface t cx))
    (hrg2 : w2.ranges Try.prog 9 tokR b r 128 D (fun z => left z && !z.sameKey (.string x)) cnt2) (hlt : cnt2 < cnt) (hg2 : wr.grownBy w2 (some r)) (hown : w3.ownsRow base 89 2 v' (es.length + 1) (es.flatMap encF ++ [encStr x, .iface t cx])) (hg3 : (w2.alloc o).grownBy w3 v.ownBlock) :
    ∃ p c, v' = .slice p (es.length + 1) c ∧ w3.cell? ⟨q, 0, none⟩ = some v ∧ w3.frozen? ⟨q, 0, none⟩ = false ∧ Hid (Ranging D b r q n base w (w3.setCell ⟨q, 0, none⟩ v') (fun z => left z && !z.sameKey (.string x)) cnt2 (es ++ [(x, (t, cx))]) v') := by
  obtain ⟨hq3, hR3⟩ := ranging_next h hlk hat hrg2 hlt hg2 hown hg3
  have hc : w3.cell? ⟨q, 0, none⟩ = some v := by rw [cell_of_row w3 _ 0 _ _ (0, 0) hq3]; rfl
  have hf := frozen_of_row w3 q 0 _ _ hq3
  rcases hown.2 with ⟨_, h0⟩ | ⟨g, cap, cur, rfl, _⟩
  · omega
  · exact ⟨_, _, rfl, hc, hf, hR3⟩

set_option maxHeartbeats 3200000 in
set_option maxRecDepth 100000 in
theorem fields_anyT (b n : Nat) (vK : List (List Int)) (ps : List Value) (w : World) (hm : w.ownsMap Try.prog 9 tokR b 128 (mapD vK ps n)) (ha : ∀ i, i < n → upB vK i = true) (hps : ∀ i, i < n → ∃ t x, ps.getD i .nilIface = .iface t x) (hn : n ≤ 100) :
    Calls Try.prog 44 #[.agg #[.map (some b)]] w fun e w' => ∃ u, e = .returned u ∧ (FRow w' u vK ps n ∧ FTag w' u) ∧ Below w.heap.size w w' := by
  rw [mapD_listU vK ps n ha] at hm
  have hbw := hm.lt
  obtain ⟨i0, hi, hz0, hz1, hz2⟩ := info_parts infoF
  have hb2 : ∀ o o' : Obj, Below w.heap.size w ((w.alloc o).alloc o') := fun o o' => ((Below.refl _ _).alloc (Nat.le_refl _) o).alloc (by simp) o'
  have hmA : ∀ o o' : Obj, ((w.alloc o).alloc o').ownsMap Try.prog 9 tokR b 128 (.map (entF vK ps n)) := fun o o' => hm.kept (below_grows (hb2 o o') none) (by simp)
  have hSz := size_ent vK ps n
  have hHeld : ∀ (kl : Lit) (c : Value), (∀ zd, (DataW.map (entF vK ps n)).atKey kl zd = .held c) → ∃ t x, c = .iface t x := fun kl c h => by
    obtain ⟨i, hi, rfl⟩ := held_at h
    exact hps i hi
  have hSort : ∀ (r q base cnt : Nat) (wr : World) (left : Lit → Bool) (es : List Fd) (v : Value), Ranging (DataW.map (entF vK ps n)) b r q n base w wr left cnt es v → (∀ kl, left kl = false) → Calls Try.prog 60 #[.iface 87 v, .func (.func 61) #[] #[.pointer (some ⟨q, 0, none⟩)]] wr fun e w' => e = .returned (.tuple #[]) ∧ w'.cell? ⟨q, 0, none⟩ = some v ∧ Hid ((FRow w' v vK ps n ∧ FTag w' v) ∧ Below w.heap.size w w') :=
    fun r q base cnt wr left es v h hl => sort_met h hl ha hps hn
  have HSort := hide' hSort
  have HHeld := hide' hHeld
  have Hsz := hide' hSz
  have HbA := hide' hb2
  have H2 := hide' (two_boxes w (.cells #[.map (some b)] 60) (.cells #[.slice none 0 0] 87))
  clear ha hps hSz hm hb2 hSort hHeld
  generalize (DataW.map (entF vK ps n)) = D at *
  go_enter Try.func44, Try.ntmps44
  go_wp2_with (first
    | (at_range; refine wpList_range_own _ rfl _ 58 rfl 9 49 (Maps.string_keyed Try.underlying9) Try.underlying58 tokR b 128 D rfl (hmA _ _) ?_; intro w0 hrg0 hg0 hs0)
    | go_in)
  have hsz2 := size2 w (.cells #[.map (some b)] 60) (.cells #[.slice none 0 0] 87)
  have hbel0 : Below w.heap.size w w0 := (HbA.out _ _).grown hg0 (HbA.out _ _).size (by simp)
  have hq0 : w0.heap[w.heap.size + 1]? = some (.cells #[.slice none 0 0] 87 (0, 0)) := (hg0.block _ (by omega) (by simp)).trans H2.out.2
  have hr1 : w.heap.size + 2 ≤ ((w.alloc (.cells #[.map (some b)] 60)).alloc (.cells #[.slice none 0 0] 87)).heap.size := by omega
  generalize ((w.alloc (.cells #[.map (some b)] 60)).alloc (.cells #[.slice none 0 0] 87)).heap.size = r at *
  have hR0 : Ranging D b r (w.heap.size + 1) n (r + 1) w w0 (Maps.has D) (Maps.size D) [] (.slice none 0 0) :=
    ⟨hrg0, Collected.start D, fun x hx => by simp at hx, by rw [Hsz.out]; simp, hq0, ⟨by simp, .inl ⟨rfl, rfl⟩⟩, hbel0, by omega, by omega, by omega, by omega, hbw⟩
  have HR0 := hide' hR0
  clear hrg0 hg0 hs0 hsz2 hbel0 hq0 hmA HbA H2 hR0
  go_frame
  go_loopw [4, 5] (fun _ _ wr => ∃ left cnt es v, Ranging D b r (w.heap.size + 1) n (r + 1) w wr left cnt es v) (fun _ _ wr => wr.rangeLeft b r)
  case atStart => exact ⟨_, _, _, _, HR0.out⟩
  case round =>
    obtain ⟨left, cnt, es, v, hR⟩ := hrel
    have HR := hide' hR
    obtain ⟨hrg, hC, hM, hcs, hq, hrow, hbel, hrb, hqb, hwq, hbs, hwr⟩ := hR
    have hbz := hbel.size
    have hqc : wr.cell? ⟨w.heap.size + 1, 0, none⟩ = some v := by rw [cell_of_row wr _ 0 _ _ (0, 0) hq]; rfl
    have hvs : ∃ p c, v = .slice p es.length c := by
      rcases hrow.2 with ⟨rfl, h0⟩ | ⟨g, cap, cur, rfl, _⟩
      · exact ⟨none, 0, by rw [h0]⟩
      · exact ⟨_, _, rfl⟩
    go_wp2_with (first
      | (at_next; refine wpList_next_ranges _ rfl _ rfl 9 (Maps.string_keyed Try.underlying9) tokR encStr id (fun key kl hk => by obtain ⟨x, hx, _⟩ := Maps.keyOf_str Try.underlying9 hk; exact ⟨x, hx⟩) (fun v y hv => ⟨v, rfl⟩) b r 128 _ _ _ rfl hrg ?_ ?_)
      | go_in)
    · intro hc0 hl0
      have hS := hide' (HSort.out _ _ _ _ _ _ _ _ HR.out hl0)
      obtain ⟨p, c, rfl⟩ := hvs
      clear hrg hC hM hcs hq hrow hbel hl0 HR HR0 HSort HHeld
      go_wp2_with fail
      refine hS.out.mono ?_
      rintro e w' ⟨rfl, hqc', hF⟩
      go_wp2
      go_ret
      exact ⟨_, rfl, hF.out.1, hF.out.2⟩
    · intro x c kl yd yp w2 cnt2 hkey hlk hv hat hrg2 hlt hg2 hs2 hen
      obtain ⟨x', ex, rfl, hxl⟩ := Maps.keyOf_str Try.underlying9 hkey
      obtain rfl : x = x' := encStr_inj ex
      have hy : yd = .held c := by
        have : some (DataW.held c, ([] : List MemPlace)) = some (yd, yp) := hv
        simp at this
        exact this.1.symm
      subst hy
      obtain ⟨t, cx, rfl⟩ := HHeld.out _ _ hat
      have hrow2 : w2.ownsRow (r + 1) 89 2 v es.length (es.flatMap encF) := hrow.kept hg2 (Or.inr (row_ne_iter hrow hrg).symm)
      have hsz2 := hg2.size
      have hq2 : w2.heap[w.heap.size + 1]? = some (.cells #[v] 87 (0, 0)) := (hg2.block _ (by omega) (by simp; omega)).trans hq
      have hqc2 : w2.cell? ⟨w.heap.size + 1, 0, none⟩ = some v := by rw [cell_of_row w2 _ 0 _ _ (0, 0) hq2]; rfl
      obtain ⟨vp, vc, hve⟩ := hvs
      have hl40 : es.length + 1 ≤ 100 := by omega
      have Hlk := hide' hlk
      have Hat := hide' hat
      have Hrg2 := hide' hrg2
      have Hg2 := hide' hg2
      have Hrg := hide' hrg
      have Hmeas : Hid (wr.rangeLeft b r = cnt) := hrg.left_eq
      have hcell := cell_two_new w2 (.string ⟨x.toArray⟩) (.iface t cx) 89
      have hrw := hrow2.alloc (.cells #[.string ⟨x.toArray⟩, .iface t cx] 89)
      have hone : ∀ u ∈ [Value.string ⟨x.toArray⟩, Value.iface t cx], u.oneCell' = true := by
        intro u hu
        simp at hu
        rcases hu with rfl | rfl <;> rfl
      have h63 : es.length + 1 ≤ maxLen := by unfold maxLen; omega
      have hbase : r + 1 ≤ (w2.alloc (.cells #[.string ⟨x.toArray⟩, .iface t cx] 89)).heap.size := by simp; omega
      have Hrow2 := hide' hrow2
      clear hs2 hkey hv hat hlk hrg2 hg2 hrg hC hM hq hrow hbel hq2 hqc HSort HHeld HR0 hrow2
      subst hve
      unfold encStr at hen
      unfold encStr
      go_wp2_with (at_builtin; refine wpList_append_own_at _ rfl _ _ 87 rfl (r + 1) 89 i0 (.agg #[.string ⟨#[]⟩, .nilIface]) 2 32 Try.underlying87 hi hz0 hz1 hz2 rfl (by decide) _ es.length _ rfl hrw ⟨w2.heap.size, 0, none⟩ 1 1 [.string ⟨x.toArray⟩, .iface t cx] rfl rfl hcell hone h63 (by omega) hbase ?_; intro v' w3 hown' hg3 hnil hloc; obtain ⟨vp', vc', hv', hq3c, hq3f, HR3⟩ := ranging_store HR.out Hlk.out Hat.out Hrg2.out hlt Hg2.out hown' hg3; clear hown' hg3 hnil hloc; subst hv')
      go_roundw
      case rel => exact ⟨_, _, _, _, HR3.out⟩
      case measure => rw [HR3.out.1.left_eq, Hmeas.out]; exact hlt

theorem fields_anyU (b n : Nat) (vK : List (List Int)) (ps : List Value) (w : World) (hm : w.ownsMap Try.prog 9 tokR b 128 (mapD vK ps n)) (ha : ∀ i, i < n → upB vK i = true) (hps : ∀ i, i < n → ∃ t x, ps.getD i .nilIface = .iface t x) (hn : n ≤ 100) :
    Calls Try.prog 44 #[.agg #[.map (some b)]] w fun e w' => ∃ u, e = .returned u ∧ FRow w' u vK ps n ∧ Below w.heap.size w w' :=
  (fields_anyT b n vK ps w hm ha hps hn).mono fun e w' ⟨u, h1, h2, h3⟩ => ⟨u, h1, h2.1, h3⟩

theorem fields_any (b n : Nat) (vK : List (List Int)) (ps : List Value) (w : World) (hm : w.ownsMap Try.prog 9 tokR b 64 (mapD vK ps n)) (ha : ∀ i, i < n → stepB vK i = true) (hps : ∀ i, i < n → ∃ t x, ps.getD i .nilIface = .iface t x) (hn : n ≤ 40) :
    Calls Try.prog 44 #[.agg #[.map (some b)]] w fun e w' => ∃ u, e = .returned u ∧ FRow w' u vK ps n ∧ Below w.heap.size w w' := fields_anyU b n vK ps w (hm.mono (n' := 128) (by omega)) (step_up ha) hps (by omega)
end Go.Proofs.Ytenfnbnhdmkhkaa
