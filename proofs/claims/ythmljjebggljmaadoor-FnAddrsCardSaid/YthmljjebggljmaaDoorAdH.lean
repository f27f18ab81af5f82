/-
  What AddrName of the program calls of the library: bytes.Cut at a bracket, bytes.TrimRight, bytes.Trim, bytes.Equal, strconv.Atoi.
-/
import Derived.Test.YthmljjebggljmaaDoorAdP
import Derived.Test.YthmljjebggljmaaDoorSegC
import Derived.WalkSmall
namespace Go.Proofs.YthmljjebggljmaaDoor
open Go.RowKit
set_option linter.unusedVariables false
set_option linter.unusedSimpArgs false

/-- The library's two sentinels hold something. -/
def Errs (w : World) : Prop := (∃ t p, w.var? Tryd.prog "strconv.ErrSyntax" = some #[.iface t p]) ∧ ∃ t p, w.var? Tryd.prog "strconv.ErrRange" = some #[.iface t p]

theorem var_kept {P : Program} {w w' : World} {n : String} {cs : Array Value} (h : w.var? P n = some cs) (hb : Below w.heap.size w w') : w'.var? P n = some cs := by
  unfold World.var? at h ⊢
  cases hg : P.globalNamed n with
  | none => rw [hg] at h; simp at h
  | some g =>
    rw [hg] at h
    simp only [Option.bind_some] at h ⊢
    have hlt : g < w.heap.size := by
      cases hh : w.heap[g]? with
      | none => rw [hh] at h; simp at h
      | some o => exact (Array.getElem?_eq_some_iff.1 hh).1
    rw [hb.block g hlt]
    exact h

theorem Errs.grow {w w' : World} (h : Errs w) (hb : Below w.heap.size w w') : Errs w' := by
  obtain ⟨⟨t1, p1, h1⟩, t2, p2, h2⟩ := h
  exact ⟨⟨t1, p1, var_kept h1 hb⟩, t2, p2, var_kept h2 hb⟩

theorem Seg.bytesIn {w : World} {a : Option Addr} {xs : List Int} {n : Nat} (h : Seg w a xs) (hn : xs.length = n) : Lib.BytesIn w a n xs := by
  intro h0
  rcases h.2 with h1 | ⟨b, off, rfl, hc⟩
  · subst h1; simp at hn; omega
  · exact ⟨b, off, rfl, fun i hi => hc i (by omega)⟩
theorem byt256 {xs : List Int} (h : ∀ x ∈ xs, Byt x) : ∀ x ∈ xs, 0 ≤ x ∧ x < 256 := fun x hx => by have := h x hx; unfold Byt at this; omega

/-- Where the bracket stands, by the library's word. -/
theorem index_cutI : ∀ (xs : List Int), (∀ x ∈ xs, Byt x) → Lib.indexByte (Lib.bytesOf xs) (91 : Int).toNat.toUInt8 = if cutI xs < xs.length then (cutI xs : Int) else -1
  | [], _ => rfl
  | x :: xs, h => by
    have ih := index_cutI xs (fun y hy => h y (by simp [hy]))
    have hx := h x (by simp)
    have e : ((UInt8.ofNat x.toNat) == (91 : Int).toNat.toUInt8) = decide (x = 91) := ofNat_eq hx (c := 91) (by simp [Byt])
    have hstep : cutI (x :: xs) = if x = 91 then 0 else cutI xs + 1 := by
      unfold cutI
      rw [List.findIdx_cons]
      by_cases hx91 : x = 91 <;> simp [hx91]
    show Lib.indexByte (UInt8.ofNat x.toNat :: Lib.bytesOf xs) _ = _
    rw [Lib.indexByte, e, ih, hstep]
    by_cases hx91 : x = 91
    · simp [hx91]
    · simp only [hx91, decide_false, Bool.false_eq_true, if_false]
      by_cases hc : cutI xs < xs.length
      · have h1 : ¬ ((cutI xs : Int) == -1) = true := by simp
        have h2 : cutI xs + 1 < (x :: xs).length := by simp; omega
        rw [if_pos hc, if_neg h1, if_pos h2]
        omega
      · have h2 : ¬ cutI xs + 1 < (x :: xs).length := by simp; omega
        rw [if_neg hc, if_neg h2]
        rfl

/-- What bytes.Cut leaves: the part ahead, the part behind. -/
def CutEnd (a : Option Addr) (c : Nat) (xs : List Int) (w : World) (e : Ending) (w' : World) : Prop :=
  Below w.heap.size w w' ∧ ∃ a2 c2, e = .returned (.tuple #[.slice a (cutI xs) c, .slice a2 (xs.drop (cutI xs + 1)).length c2, .bool (decide (cutI xs < xs.length))]) ∧ Seg w a2 (xs.drop (cutI xs + 1)) ∧ (xs.drop (cutI xs + 1)).length ≤ c2 ∧ c2 ≤ maxLen

theorem below_drawn (w : World) (q : Nat) : Below w.heap.size w (w.drewN q) := below_drewN (Below.refl _ _) q

theorem cut_any (a : Option Addr) (c g : Nat) (xs : List Int) (w : World) (ha : Seg w a xs) (hl : xs.length ≤ 4611686018427387904) (hcap : xs.length ≤ c) (hc2 : c ≤ maxLen) (ka : a = none → c = 0) (hg : w.cell? ⟨g, 0, none⟩ = some (.int .u8 91)) :
    Calls Tryd.prog 32 #[.slice a xs.length c, .slice (some ⟨g, 0, none⟩) 1 1] w (CutEnd a c xs w) := by
  unfold maxLen at hc2
  have hI : Calls Tryd.prog 43 #[.slice a xs.length c, .slice (some ⟨g, 0, none⟩) 1 1] w fun e w' => e = .returned (.int .i64 (if cutI xs < xs.length then (cutI xs : Int) else -1)) ∧ ∃ q, w' = w.drewN q := by
    rw [← index_cutI xs ha.1]
    cases a with
    | none =>
      have hx : xs = [] := by
        rcases ha.2 with h0 | ⟨b, off, h1, _⟩
        · exact h0
        · simp at h1
      subst hx
      rw [ka rfl]
      exact (Tryd.bytes_Index_one_nil g 0 1 91 w hg).mono fun e w' ⟨he, hw⟩ => ⟨he, 0, hw⟩
    | some x =>
      by_cases h0 : xs = []
      · subst h0
        obtain ⟨b, o, s⟩ := x
        have := Tryd.bytes_Index_one_at ⟨b, o, s⟩ 0 c g 0 1 [] 91 w rfl (by intro i hi; omega) hg
        exact this.mono fun e w' ⟨he, hw⟩ => ⟨he, 0, hw⟩
      · rcases ha.2 with h1 | ⟨b, off, h1, hc⟩
        · exact absurd h1 h0
        · simp at h1
          subst h1
          exact (Tryd.bytes_Index_one b off xs.length c g 0 1 xs 91 w rfl hc hg).mono fun e w' ⟨he, hw⟩ => ⟨he, 0, hw⟩
  have hle := cutI_le xs
  refine (Tryd.bytes_Cut_of a (some ⟨g, 0, none⟩) xs.length c 1 1 _ w hcap (by split <;> omega) (by split <;> omega) (by omega) hI).mono fun e w' ⟨he, q, hw⟩ => ?_
  subst hw
  refine ⟨below_drawn w q, ?_⟩
  by_cases h : cutI xs < xs.length
  · rw [if_pos h] at he
    unfold Lib.cutV at he
    rw [if_pos (by omega)] at he
    obtain ⟨b, off, rfl, _⟩ := ha.at (k := 0) (by omega)
    have hl : (xs.drop (cutI xs + 1)).length = xs.length - (cutI xs + 1) := by simp
    refine ⟨if c = cutI xs + 1 then some ⟨b, off, none⟩ else some ⟨b, off + (cutI xs + 1), none⟩, c - (cutI xs + 1), ?_, ?_, by omega, by unfold maxLen; omega⟩
    · rw [he, hl, decide_eq_true h]
      unfold Lib.fromV
      simp [Addr.add_lit]
    · by_cases hc : c = cutI xs + 1
      · rw [if_pos hc]
        have : xs.drop (cutI xs + 1) = [] := List.drop_eq_nil_of_le (by omega)
        rw [this]
        exact ⟨by simp, .inl rfl⟩
      · rw [if_neg hc]
        have := ha.piece (cutI xs + 1) (xs.length - (cutI xs + 1)) (by omega)
        have e : (xs.drop (cutI xs + 1)).take (xs.length - (cutI xs + 1)) = xs.drop (cutI xs + 1) := List.take_of_length_le (by simp)
        rw [e] at this
        exact this
  · have h' : cutI xs = xs.length := by omega
    rw [if_neg h] at he
    unfold Lib.cutV at he
    rw [if_neg (by omega)] at he
    have hd : xs.drop (cutI xs + 1) = [] := List.drop_eq_nil_of_le (by omega)
    refine ⟨none, 0, ?_, ?_, ?_, Nat.zero_le _⟩
    · rw [he, hd, decide_eq_false h, h']
      rfl
    · rw [hd]; exact ⟨by simp, .inl rfl⟩
    · rw [hd]; exact Nat.le_refl _

theorem trimRight_any (a : Option Addr) (c : Nat) (r : List Int) (w : World) (ha : Seg w a r) (hcap : r.length ≤ c) (hc2 : c ≤ maxLen) :
    Calls Tryd.prog 33 #[.slice a r.length c, .string ⟨#[93]⟩] w fun e w' => e = .returned (.slice a (trimR 93 r).length c) ∧ Below w.heap.size w w' := by
  unfold maxLen at hc2
  have h := Any.bytes_TrimRight_laid Tryd.laysV7 (by kernel_rfl) a r.length c r ⟨#[93]⟩ w rfl hcap (by omega) (ha.bytesIn rfl) (byt256 ha.1) (by decide) (by intro j b hb; cases j <;> simp at hb; subst hb; decide)
  have e : (Lib.trimRightS (Lib.bytesOf r) (⟨#[93]⟩ : ByteArray).data.toList).length = (trimR 93 r).length := by
    have := trimR_bytes (c := 93) (by simp [Byt]) r ha.1
    rw [← u8s_len (trimR 93 r), ← this]
    rfl
  rw [e] at h
  exact h

theorem trim_any (a : Option Addr) (c : Nat) (r : List Int) (w : World) (ha : Seg w a r) (hcap : r.length ≤ c) (hc2 : c ≤ maxLen) :
    Calls Tryd.prog 35 #[.slice a r.length c, .string ⟨#[34]⟩] w fun e w' => Below w.heap.size w w' ∧ ∃ a3 c3, e = .returned (.slice a3 (trimL 34 (trimR 34 r)).length c3) ∧ Seg w a3 (trimL 34 (trimR 34 r)) ∧ (a3 = none → c3 = 0) := by
  unfold maxLen at hc2
  have h := Any.bytes_Trim_laid Tryd.laysV6 (by kernel_rfl) a r.length c r ⟨#[34]⟩ w rfl hcap (by omega) (ha.bytesIn rfl) (byt256 ha.1) (by decide) (by intro j b hb; cases j <;> simp at hb; subst hb; decide)
  have e : (Lib.trimRightS (Lib.bytesOf r) (⟨#[34]⟩ : ByteArray).data.toList).length = (trimR 34 r).length := by
    have := trimR_bytes (c := 34) (by simp [Byt]) r ha.1
    rw [← u8s_len (trimR 34 r), ← this]
    rfl
  have e2 : (Lib.trimS (Lib.bytesOf r) (⟨#[34]⟩ : ByteArray).data.toList).length = (trimL 34 (trimR 34 r)).length := by
    have := trim_bytes (c := 34) (by simp [Byt]) r ha.1
    rw [← u8s_len (trimL 34 (trimR 34 r)), ← this]
    rfl
  rw [e, e2] at h
  have hl1 := trimR_len 34 r
  have hd := trimL_drop 34 (trimR 34 r)
  have hl2 : (trimL 34 (trimR 34 r)).length ≤ (trimR 34 r).length := by have := congrArg List.length hd; simp at this; omega
  have ht := trimR_take 34 r
  refine h.mono fun e w' ⟨he, hb⟩ => ⟨hb, ?_⟩
  generalize hk : (trimR 34 r).length = k at *
  generalize hm : (trimL 34 (trimR 34 r)).length = m at *
  unfold Lib.leftV at he
  by_cases hz : m = 0
  · rw [if_pos (by omega)] at he
    have : trimL 34 (trimR 34 r) = [] := List.eq_nil_of_length_eq_zero (by omega)
    exact ⟨none, 0, by rw [he, hz], by rw [this]; exact ⟨by simp, .inl rfl⟩, fun _ => rfl⟩
  · rw [if_neg (by omega)] at he
    obtain ⟨b, off, rfl, _⟩ := ha.at (k := 0) (by omega)
    unfold Lib.fromV at he
    have hkm : k - (k - m) = m := by omega
    rw [hkm, if_neg (by omega)] at he
    refine ⟨some ⟨b, off + (k - m), none⟩, c - (k - m), by rw [he]; simp [Addr.add_lit], ?_, by simp⟩
    have hp := ha.piece (k - m) m (by omega)
    have e3 : trimL 34 (trimR 34 r) = (r.drop (k - m)).take m := by
      rw [hd, ht, List.drop_take, hkm]
    rw [e3]
    exact hp

theorem equal_any (a b : Option Addr) (c1 c2 : Nat) (xs ys : List Int) (w : World) (ha : Seg w a xs) (hb : Seg w b ys) :
    Calls Tryd.prog 36 #[.slice a xs.length c1, .slice b ys.length c2] w fun e w' => e = .returned (.bool (decide (xs = ys))) ∧ w' = w := by
  have h := Tryd.bytes_Equal_all a b xs.length c1 ys.length c2 xs ys w rfl rfl (ha.bytesIn rfl) (hb.bytesIn rfl)
  have e : (Lib.bytesOf xs == Lib.bytesOf ys) = decide (xs = ys) := by
    have := strOf_eq ha.1 hb.1
    rw [strOf_list, strOf_list] at this
    exact this
  rw [e] at h
  exact h

theorem atoi_any (t : List Int) (w : World) (hl : t.length ≤ 281474976710656) (hE : Errs w) :
    Calls Tryd.prog 34 #[.string (strOf t)] w fun e w' => Below w.heap.size w w' ∧ ∃ n v, e = .returned (.tuple #[.int .i64 n, v]) ∧ ∀ u : Nat, u ≤ 99 → t = decI u → n = u := by
  have hs : (strOf t).size = t.length := size_strOf t
  have hd : (strOf t).data.toList = u8s t := rfl
  obtain ⟨⟨t1, p1, h1⟩, t2, p2, h2⟩ := hE
  cases hA : Lib.atoiAll (u8s t) with
  | ok v =>
    refine (Tryd.strconv_Atoi_ok (strOf t) (by omega) v (by rw [hd]; exact hA) w).mono fun e w' ⟨he, hw⟩ => ⟨?_, v, .nilIface, he, fun u hu ht => ?_⟩
    · rcases hw with rfl | ⟨s, rfl⟩
      · exact Below.refl _ _
      · exact Lib.bytesWorld_below w 5 s
    · subst ht
      rw [atoi_dec u hu] at hA
      injection hA with hA
      exact hA.symm
  | «syntax» =>
    refine (Tryd.strconv_Atoi_syntax_var (strOf t) (by omega) (by rw [hd]; exact hA) t1 p1 w h1).mono fun e w' ⟨N, he, _, _, hb⟩ => ⟨hb, 0, _, he, fun u hu ht => ?_⟩
    subst ht
    rw [atoi_dec u hu] at hA
    cases hA
  | range =>
    refine (Tryd.strconv_Atoi_range_var (strOf t) (by omega) (by rw [hd]; exact hA) t2 p2 w h2).mono fun e w' ⟨N, he, _, _, hb⟩ => ⟨hb, _, _, he, fun u hu ht => ?_⟩
    subst ht
    rw [atoi_dec u hu] at hA
    cases hA
end Go.Proofs.YthmljjebggljmaaDoor
