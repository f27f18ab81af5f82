/-
  Texts that a law leans on, one behind the other; no statement is proved here.
-/
import Derived.Test.YtmdmiiikbdnioaaPk10
import Derived.Sort.KeysCollected
/-
  Entries of a map, in whatever order they were met: put in order by their keys they are the one list of the map's entries.
-/
namespace Go.Proofs.Ytmdmiiikbdnioaa
open Go.RowKit Go.Sort
set_option linter.unusedVariables false
set_option linter.unusedSimpArgs false

/-- What an interface holds. -/
def unI : Value → TypeId × Value
  | .iface t v => (t, v)
  | _ => (0, .nilIface)

abbrev Fd : Type := List UInt8 × (TypeId × Value)

/-- The entries, in the order of the keys. -/
def fieldL (vK : List (List Int)) (ps : List Value) (n : Nat) : List Fd := (List.range n).map fun i => (u8s (vK.getD i []), unI (ps.getD i .nilIface))

theorem length_fieldL (vK : List (List Int)) (ps : List Value) (n : Nat) : (fieldL vK ps n).length = n := by simp [fieldL]
theorem fieldL_at (vK : List (List Int)) (ps : List Value) (n i : Nat) (h : i < n) : (fieldL vK ps n)[i]'(by rw [length_fieldL]; exact h) = (u8s (vK.getD i []), unI (ps.getD i .nilIface)) := by simp [fieldL]

theorem key_inj {vK : List (List Int)} {n : Nat} (h : ∀ i, i < n → upB vK i = true) {i j : Nat} (hi : i < n) (hj : j < n) (e : u8s (vK.getD i []) = u8s (vK.getD j [])) : i = j := by
  rcases Nat.lt_trichotomy i j with hlt | heq | hgt
  · have := asc_ltU h j hj i hlt
    rw [e, less_irrefl] at this
    simp at this
  · exact heq
  · have := asc_ltU h i hi j hgt
    rw [e, less_irrefl] at this
    simp at this

theorem find_ent (vK : List (List Int)) (ps : List Value) (k : List UInt8) : ∀ (l : List Nat) (i : Nat), i ∈ l → u8s (vK.getD i []) = k → (∀ j ∈ l, u8s (vK.getD j []) = k → j = i) →
    (l.map fun i => ((.string (u8s (vK.getD i [])), .held (ps.getD i .nilIface)) : Go.Lit × DataW Value)).find? (fun p => p.1.sameKey (.string k)) = some (.string k, .held (ps.getD i .nilIface))
  | [], i, h, _, _ => by simp at h
  | j :: l, i, h, e, hu => by
    simp only [List.map_cons, List.find?_cons]
    by_cases hj : u8s (vK.getD j []) = k
    · have := hu j (by simp) hj
      subst this
      rw [hj]
      simp [Lit.sameKey]
    · have hf : (Lit.string (u8s (vK.getD j []))).sameKey (.string k) = false := by simpa [Lit.sameKey] using hj
      rw [hf]
      have hi : i ∈ l := by
        rcases List.mem_cons.1 h with rfl | h
        · exact absurd e hj
        · exact h
      exact find_ent vK ps k l i hi e (fun q hq => hu q (by simp [hq]))

theorem at_ent {vK : List (List Int)} {ps : List Value} {n : Nat} (h : ∀ i, i < n → upB vK i = true) {i : Nat} (hi : i < n) (zd : DataW Value) : (DataW.map (entF vK ps n)).atKey (.string (u8s (vK.getD i []))) zd = .held (ps.getD i .nilIface) := by
  have := find_ent vK ps (u8s (vK.getD i [])) (List.range n) i (by simpa using hi) rfl (fun j hj e => key_inj h (by simpa using hj) hi e)
  unfold entF DataW.atKey
  simp only
  rw [this]

/-- Met in whatever order. -/
def Met (D : DataW Value) (es : List Fd) : Prop := ∀ x ∈ es, ∀ zd, D.atKey (.string x.1) zd = .held (.iface x.2.1 x.2.2)

theorem strKeys_ent (vK : List (List Int)) (ps : List Value) (n : Nat) : Go.strKeys (DataW.map (entF vK ps n)) = (fieldL vK ps n).map (·.1) := by
  simp [Go.strKeys, entF, fieldL, Go.strOf, Function.comp_def]

theorem met_eq {vK : List (List Int)} {ps : List Value} {n : Nat} (h : ∀ i, i < n → upB vK i = true) {es : List Fd} (hm : Met (DataW.map (entF vK ps n)) es) {x : Fd} (hx : x ∈ es) {i : Nat} (hi : i < n) (e : x.1 = u8s (vK.getD i [])) : x = (u8s (vK.getD i []), unI (ps.getD i .nilIface)) := by
  have h1 := hm x hx .nil
  rw [e, at_ent h hi] at h1
  simp only [DataW.held.injEq] at h1
  obtain ⟨x1, x2, x3⟩ := x
  simp only at e h1
  rw [h1, e]
  rfl

theorem nodup_of_map {α β : Type} (f : α → β) {l : List α} (h : (l.map f).Nodup) : l.Nodup := (List.pairwise_map.1 h).imp fun hne e => hne (congrArg f e)

theorem met_perm {vK : List (List Int)} {ps : List Value} {n : Nat} (h : ∀ i, i < n → upB vK i = true) {es : List Fd} (hm : Met (DataW.map (entF vK ps n)) es) (hp : (es.map (·.1)).Perm (Go.strKeys (DataW.map (entF vK ps n)))) : es.Perm (fieldL vK ps n) := by
  rw [strKeys_ent] at hp
  have hnd : ((fieldL vK ps n).map (·.1)).Nodup := by
    rw [List.nodup_iff_pairwise_ne, List.pairwise_map, fieldL, List.pairwise_map]
    refine List.Pairwise.imp_of_mem ?_ (List.nodup_range (n := n))
    intro a b ha hb hne e
    exact hne (key_inj h (by simpa using ha) (by simpa using hb) e)
  have hn1 : (fieldL vK ps n).Nodup := nodup_of_map _ hnd
  have hn2 : es.Nodup := nodup_of_map _ (hp.nodup_iff.2 hnd)
  refine (List.perm_ext_iff_of_nodup hn2 hn1).2 fun x => ⟨fun hx => ?_, fun hx => ?_⟩
  · have h1 : x.1 ∈ (fieldL vK ps n).map (·.1) := hp.mem_iff.1 (List.mem_map.2 ⟨x, hx, rfl⟩)
    obtain ⟨y, hy, e⟩ := List.mem_map.1 h1
    simp only [fieldL, List.mem_map, List.mem_range] at hy
    obtain ⟨i, hi, rfl⟩ := hy
    rw [met_eq h hm hx hi e.symm]
    simp only [fieldL, List.mem_map, List.mem_range]
    exact ⟨i, hi, rfl⟩
  · have h1 : x.1 ∈ es.map (·.1) := hp.mem_iff.2 (List.mem_map.2 ⟨x, hx, rfl⟩)
    obtain ⟨y, hy, e⟩ := List.mem_map.1 h1
    simp only [fieldL, List.mem_map, List.mem_range] at hx
    obtain ⟨i, hi, rfl⟩ := hx
    rw [← met_eq h hm hy hi e]
    exact hy

/-- What is in order and a permutation of the entries is the list of the entries. -/
theorem sorted_eq {vK : List (List Int)} {ps : List Value} {n : Nat} (h : ∀ i, i < n → upB vK i = true) (d d' : Array Fd) (hd : d.toList.Perm (fieldL vK ps n)) (hp : PermIn 0 d.size d d') (hs : SortedIn ltF 0 d.size d') : d'.toList = fieldL vK ps n := by
  have hsz : d'.size = d.size := hp.1
  have hp2 : d'.toList.Perm d.toList := by
    have := hp.2.2
    rw [Array.extract_eq_self_of_le (by omega), Array.extract_eq_self_of_le (by omega)] at this
    exact this
  have hP := hp2.trans hd
  refine List.Perm.eq_of_pairwise (le := fun x y => ltF y x = false) ?_ ?_ ?_ hP
  · intro a b ha hb h1 h2
    have ha' : a ∈ fieldL vK ps n := hP.mem_iff.1 ha
    simp only [fieldL, List.mem_map, List.mem_range] at ha' hb
    obtain ⟨i, hi, rfl⟩ := ha'
    obtain ⟨j, hj, rfl⟩ := hb
    have e := less_total _ _ h2 h1
    have := key_inj h hi hj e
    rw [this]
  · rw [List.pairwise_iff_getElem]
    intro i j hi hj hij
    have := hs i j (Nat.zero_le _) hij (by rw [← hsz]; simpa using hj)
    rw [getElem!_pos d' i (by simpa using hi), getElem!_pos d' j (by simpa using hj)] at this
    simpa using this
  · rw [fieldL, List.pairwise_map]
    refine List.Pairwise.imp_of_mem ?_ (List.pairwise_lt_range (n := n))
    intro a b ha hb hlt
    exact less_asymm (asc_ltU h b (by simpa using hb) a hlt)
end Go.Proofs.Ytmdmiiikbdnioaa
