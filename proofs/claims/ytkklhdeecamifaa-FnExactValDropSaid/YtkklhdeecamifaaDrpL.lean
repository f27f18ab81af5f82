/-
  What l2drop is made of: parts of slices, appended one behind the other, and what is read of them; no statement is proved here.
-/
import Derived.Test.YtkklhdeecamifaaDrpS
import Derived.Test.YtkklhdeecamifaaRowW
import Derived.Test.YtkklhdeecamifaaReadT
import Derived.Deep.RegionLaw
namespace Go.Proofs.Ytkklhdeecamifaa
open Go.RowKit Go.Shelf
set_option linter.unusedVariables false
set_option linter.unusedSimpArgs false

/-- append of a part of another slice to a row of the call's own, inside a region that draws. -/
theorem step_append_part {ops : Array Oper} {o : Oper} {a : Act} {w : World} {K : Act → World → Prop} {Q : Exit → Act → World → Prop} {E : Prop} (hgd : o.guard = none) (s x : Operand) (t : TypeId)
    (ho : o.op = .call { callee := .builtin .append, args := #[s, x], argTypes := #[t, t] }) (base : Nat) (e : TypeId) (i : TypeInfo) (z : Value) (size bytes : Nat) (ht : Try.prog.underlying t = some (.slice e)) (hi : Try.prog.info? e = some i) (hz : i.zero = some z)
    (hsize : i.size = size) (hby : i.bytes = bytes) (hzs : z.cells.size = size) (hsz : 0 < size) (v : Value) (n : Nat) (xs : List Value) (hs : a.eval s = v) (hown : w.ownsRow base e size v n xs)
    (ad : Addr) (m c : Nat) (news : List Value) (hx : a.eval x = .slice (some ad) m c) (hl : news.length = m * size) (hnews : ∀ j u, news[j]? = some u → w.cell? (ad.add j) = some u) (h1 : ∀ u ∈ news, u.oneCell' = true)
    (h63 : n + m ≤ maxLen) (hbytes : (n + m) * bytes ≤ 140737488355328) (hbase : base ≤ w.heap.size)
    (h : ∀ v' w', w'.ownsRow base e size v' (n + m) (xs ++ news) → w.grownBy w' v.ownBlock → K (a.put o.dst v') w') : if Region.wanted o (yielded ops a.tmps) = true then Oper.wp Try.prog o a w K Q else E := by
  have hw : Region.wanted o (yielded ops a.tmps) = true := by simp [Region.wanted, hgd]
  rw [if_pos hw]
  obtain ⟨v', w', hrun, r1, r2, _⟩ := run_append_own (P := Try.prog) w base t o.type e i z size bytes ht hi hz hsize hby hzs hsz v n xs hown ad m c news hl hnews h1 h63 hbytes hbase
  unfold Oper.wp
  simp [execOp, ho, resolve, invoke, builtin, hs, hx, hrun, Result.andThen]
  exact h v' w' r1 r2

theorem elemK (w : World) : (sizeOf (Try.prog.elem 23)).run Try.prog w = .ok 1 w := by kernel_rfl
theorem elemL (w : World) : (sizeOf (Try.prog.elem 28)).run Try.prog w = .ok 5 w := by kernel_rfl

theorem sliceK_to (w : World) (a : Addr) (len cap n : Nat) (h : n ≤ cap) : (Instr.slice 23 (.slice (some a) len cap) none (some (.int .i64 n)) none).run Try.prog w = .ok (.slice (some a) n cap) w := by
  rw [run_slice_h (P := Try.prog) w 23 (some a) len cap (by kernel_rfl) .i64 n (by omega) (by omega), elemK]
  simp [Result.andThen, sliced, Addr.add]
theorem sliceL_to (w : World) (a : Addr) (len cap n : Nat) (h : n ≤ cap) : (Instr.slice 28 (.slice (some a) len cap) none (some (.int .i64 n)) none).run Try.prog w = .ok (.slice (some a) n cap) w := by
  rw [run_slice_h (P := Try.prog) w 28 (some a) len cap (by kernel_rfl) .i64 n (by omega) (by omega), elemL]
  simp [Result.andThen, sliced, Addr.add]
theorem sliceK_from (w : World) (b off len cap n : Nat) (h : n ≤ len) (hc : len ≤ cap) : (Instr.slice 23 (.slice (some ⟨b, off, none⟩) len cap) (some (.int .i64 n)) none none).run Try.prog w = .ok (.slice (some (if cap = n then ⟨b, off, none⟩ else ⟨b, off + n * 1, none⟩)) (len - n) (cap - n)) w := by
  rw [run_slice_l (P := Try.prog) w 23 _ len cap (by kernel_rfl) .i64 n (by omega) (by omega), elemK]
  simp only [Result.andThen, sliced]
  by_cases h : cap = n
  · simp [h]
  · simp [h, Addr.add_lit]
theorem sliceL_from (w : World) (b off len cap n : Nat) (h : n ≤ len) (hc : len ≤ cap) : (Instr.slice 28 (.slice (some ⟨b, off, none⟩) len cap) (some (.int .i64 n)) none none).run Try.prog w = .ok (.slice (some (if cap = n then ⟨b, off, none⟩ else ⟨b, off + n * 5, none⟩)) (len - n) (cap - n)) w := by
  rw [run_slice_l (P := Try.prog) w 28 _ len cap (by kernel_rfl) .i64 n (by omega) (by omega), elemL]
  simp only [Result.andThen, sliced]
  by_cases h : cap = n
  · simp [h]
  · simp [h, Addr.add_lit]

/-- The cells cs lie from here on. -/
def Lie (w : World) (b off : Nat) (cs : List Value) : Prop := ∀ j u, cs[j]? = some u → w.cell? ⟨b, off + j, none⟩ = some u

theorem Lie.take {w : World} {b off : Nat} {cs : List Value} (h : Lie w b off cs) (n : Nat) : ∀ j u, (cs.take n)[j]? = some u → w.cell? ((⟨b, off, none⟩ : Addr).add j) = some u := by
  intro j u hu
  rw [Addr.add_lit]
  refine h j u ?_
  rw [List.getElem?_take] at hu
  split at hu
  · exact hu
  · simp at hu

theorem Lie.drop {w : World} {b off : Nat} {cs : List Value} (h : Lie w b off cs) (n : Nat) : ∀ j u, (cs.drop n)[j]? = some u → w.cell? ((⟨b, off + n, none⟩ : Addr).add j) = some u := by
  intro j u hu
  rw [Addr.add_lit, Nat.add_assoc]
  rw [List.getElem?_drop] at hu
  exact h (n + j) u hu

theorem Lie.on {w w' : World} {b off : Nat} {cs : List Value} (h : Lie w b off cs) (hb : w'.heap[b]? = w.heap[b]?) : Lie w' b off cs := fun j u hu => (World.cell?_of_block (a := ⟨b, off + j, none⟩) hb).trans (h j u hu)

/-- A slice of texts lies as cells. -/
theorem KSeg.lie {R : Nat → Prop} {w : World} {a : Option Addr} {l p : Nat} {ks : List (List Int)} (h : KSeg R w (.slice a l p) ks) (hne : ks ≠ []) : l = ks.length ∧ ks.length ≤ p ∧ ∃ b off us, a = some ⟨b, off, none⟩ ∧ R b ∧ us.length = ks.length ∧ Lie w b off us ∧ (∀ u ∈ us, u.oneCell' = true) ∧ ∀ i (h : i < us.length), TSeg R w us[i] (ks.getD i []) := by
  obtain ⟨a', cap, e, h1, h2, h3, h4⟩ := h
  simp only [Value.slice.injEq] at e
  obtain ⟨rfl, rfl, rfl⟩ := e
  rcases h4 with h0 | ⟨b, off, ha, hR, hc⟩
  · exact absurd h0 hne
  · obtain ⟨us, hl, hu⟩ := list_of (Q := fun i u => w.cell? ⟨b, off + i, none⟩ = some u ∧ TSeg R w u (ks.getD i [])) ks.length hc
    refine ⟨rfl, h1, b, off, us, ha, hR, hl, fun j u hj => ?_, fun u hu' => ?_, fun i hi => (hu i hi).2⟩
    · obtain ⟨hj', rfl⟩ := List.getElem?_eq_some_iff.1 hj
      exact (hu j hj').1
    · obtain ⟨i, hi, rfl⟩ := List.mem_iff_getElem.1 hu'
      obtain ⟨aa, cc, e, _⟩ := (hu i hi).2
      rw [e]; rfl

/-- .. and what lies as cells in a row of its own is a slice of texts. -/
theorem kseg_of {w : World} {base : Nat} {v : Value} {n : Nat} {us : List Value} {ks : List (List Int)} (h : w.ownsRow base 22 1 v n us) (hn : n = ks.length) (hT : ∀ i (hi : i < us.length), TSeg (fun b => b < w.heap.size) w us[i] (ks.getD i [])) : KSeg (fun b => b < w.heap.size) w v ks := by
  have hul : us.length = n := by have := h.1; omega
  have hcell := fun g hg => h.cells (g := g) hg
  rcases h.2 with ⟨rfl, h0⟩ | ⟨g, cap, cur, rfl, hg, hh, hle, hm, _, _⟩
  · have hk : ks = [] := List.eq_nil_of_length_eq_zero (by omega)
    subst hk
    exact ⟨none, 0, rfl, by simp, by simp, fun _ => rfl, .inl rfl⟩
  · subst hn
    refine ⟨some ⟨g, 0, none⟩, cap, rfl, hle, hm, by simp, .inr ⟨g, 0, rfl, (Array.getElem?_eq_some_iff.1 hh).1, fun i hi => ?_⟩⟩
    have hi' : i < us.length := by omega
    refine ⟨us[i], ?_, hT i hi'⟩
    have := hcell g rfl i us[i] (List.getElem?_eq_getElem hi')
    rw [Addr.add_lit] at this
    exact this
end Go.Proofs.Ytkklhdeecamifaa
