/-
  Texts that a law leans on, one behind the other; no statement is proved here.
-/
import Derived.Test.YtmdmiiikbdnioaaPk26
import Derived.Test.YtmdmiiikbdnioaaPk7
import Derived.Test.YtmdmiiikbdnioaaPk34
/-
  A reader's place in its bytes, and a value that is being read: what stands meanwhile. No statement is proved here.
-/
namespace Go.Proofs.Ytmdmiiikbdnioaa
open Go.RowKit
set_option linter.unusedVariables false
set_option linter.unusedSimpArgs false

/-- The cells of a block of three that is known. -/
theorem row3r {w : World} {g : Nat} {T : TypeId} {c0 c1 c2 : Value} (h : w.heap[g]? = some (.cells #[c0, c1, c2] T (0, 0))) :
    w.cell? ⟨g, 0, none⟩ = some c0 ∧ w.cell? ⟨g, 1, none⟩ = some c1 ∧ w.cell? ⟨g, 2, none⟩ = some c2 ∧ ∀ j, w.frozen? ⟨g, j, none⟩ = false := by
  refine ⟨?_, ?_, ?_, fun j => frozen_of_row w g j _ T h⟩ <;> rw [cell_of_row w g _ _ T (0, 0) h] <;> rfl

/-- The reader in block g, over the bytes at a: where it is, and its count. -/
def RdC (T : TypeId) (xs : List Int) (w : World) (g : Nat) (a : Option Addr) (cap : Nat) (p q : Int) : Prop :=
  w.heap[g]? = some (.cells #[.slice a xs.length cap, .int .i64 p, .int .i64 q] T (0, 0)) ∧ Seg w a xs ∧ (∀ x, a = some x → xs ≠ [] → x.block < g) ∧ xs.length ≤ cap ∧ cap ≤ maxLen ∧ xs.length ≤ 1048576 ∧ -1 ≤ p ∧ p ≤ xs.length

variable {T : TypeId} {xs : List Int} {w w' w1 wr w5 w6 : World} {g : Nat} {a : Option Addr} {cap : Nat} {p q p' q' : Int}

theorem RdC.lt (h : RdC T xs w g a cap p q) : g < w.heap.size := (Array.getElem?_eq_some_iff.1 h.1).1
theorem seg_kept (h : Seg w a xs) (hx : ∀ x, a = some x → xs ≠ [] → w'.heap[x.block]? = w.heap[x.block]?) : Seg w' a xs := by
  refine ⟨h.1, ?_⟩
  rcases h.2 with h0 | ⟨b, off, rfl, hc⟩
  · exact .inl h0
  · by_cases he : xs = []
    · exact .inl he
    · have hb : w'.heap[b]? = w.heap[b]? := hx _ rfl he
      exact .inr ⟨b, off, rfl, fun i hi => (World.cell?_of_block hb).trans (hc i hi)⟩
/-- It stands where its block and those below it do. -/
theorem RdC.keep (h : RdC T xs w g a cap p q) (hb : ∀ b, b ≤ g → w'.heap[b]? = w.heap[b]?) : RdC T xs w' g a cap p q := by
  obtain ⟨h1, h2, h3, h4⟩ := h
  exact ⟨(hb g (Nat.le_refl _)).trans h1, seg_kept h2 (fun x hx he => hb _ (Nat.le_of_lt (h3 x hx he))), h3, h4⟩
theorem RdC.below (h : RdC T xs w g a cap p q) (hb : Below w.heap.size w w') : RdC T xs w' g a cap p q := h.keep fun b hb' => hb.block b (by have := h.lt; omega)
theorem RdC.heap (h : RdC T xs w g a cap p q) (e : w'.heap = w.heap) : RdC T xs w' g a cap p q := h.keep fun b _ => by rw [e]
/-- .. goes on to another place. -/
theorem RdC.at_ (h : RdC T xs w g a cap p q) (hp : -1 ≤ p') (hp2 : p' ≤ xs.length) : RdC T xs (w.setCell ⟨g, 1, none⟩ (.int .i64 p')) g a cap p' q := by
  obtain ⟨h1, h2, h3, h4, h5, h6, _, _⟩ := h
  refine ⟨heap_setCell_same w g 1 _ _ _ h1, seg_kept h2 fun x hx he => ?_, h3, h4, h5, h6, hp, hp2⟩
  exact Below.heap_setCell w ⟨g, 1, none⟩ _ _ (fun e => by have := h3 x hx he; simp at e; omega)
/-- .. and counts. -/
theorem RdC.cnt (h : RdC T xs w g a cap p q) (q' : Int) : RdC T xs (w.setCell ⟨g, 2, none⟩ (.int .i64 q')) g a cap p q' := by
  obtain ⟨h1, h2, h3, h4⟩ := h
  refine ⟨heap_setCell_same w g 2 _ _ _ h1, seg_kept h2 fun x hx he => ?_, h3, h4⟩
  exact Below.heap_setCell w ⟨g, 2, none⟩ _ _ (fun e => by have := h3 x hx he; simp at e; omega)

theorem text_at (xs : List Int) (a : Int) (hb : ∀ x ∈ xs, Byt x) : -1 ≤ (getText xs a).2 ∧ (getText xs a).2 ≤ xs.length ∧ (getText xs a).1.length ≤ 20 := by
  refine ⟨?_, ?_, getText_len xs a⟩
  all_goals
    have h := get_at xs a hb
    by_cases hn : (getNum xs a).2 < 0 ∨ 20 < (getNum xs a).1 ∨ (xs.length : Int) - (getNum xs a).2 < (getNum xs a).1
    · rw [getText_no _ _ hn]; simp only; omega
    · rw [getText_yes _ _ hn]; simp only; omega

/-- What a reader of a value leaves. -/
def RdEnd (T : TypeId) (xs : List Int) (g : Nat) (a : Option Addr) (cap : Nat) (w : World) (d : Nat) (v : Vl d) (p q : Int) (e : Ending) (w' : World) : Prop :=
  ∃ (uk un : Int) (s2 : Option Addr) (n2 r2 : Nat) (s3 : Option Addr) (n3 r3 : Nat) (s4 : Option Addr) (n4 r4 : Nat), e = .returned (.agg #[.int .i64 uk, .int .i64 un, .slice s2 n2 r2, .slice s3 n3 r3, .slice s4 n4 r4]) ∧
    (∃ B, VOwn w' d (.int .i64 uk, .int .i64 un, .slice s2 n2 r2, .slice s3 n3 r3, .slice s4 n4 r4) v B ∧ ∀ b ∈ B, w.heap.size ≤ b ∧ b < w'.heap.size) ∧ RdC T xs w' g a cap p q ∧ w.grownBy w' (some g)

/-- While its parts are read: its box B holds them, in blocks from w1's end on (and below N). -/
def RInv (T : TypeId) (xs : List Int) (g : Nat) (a : Option Addr) (cap : Nat) (w1 : World) (B d : Nat) (kd : Int) (K : List (List Int)) (L : List (Vl d)) (p q : Int) (N : Nat) (wr : World) (xK : Value) (csK : List (List Value)) (BiK : List (List Nat)) (xL : Value) (csL : List (List Value)) (BiL : List (List Nat)) : Prop :=
  (wr.os = w1.os ∧ wr.tape = w1.tape ∧ wr.output = w1.output ∧ w1.heap.size ≤ wr.heap.size ∧ ∀ b, b < w1.heap.size → b ≠ B → b ≠ g → wr.heap[b]? = w1.heap[b]?) ∧
  wr.heap[B]? = some (.cells #[.int .i64 kd, .int .i64 0, .slice none 0 0, xK, xL] 26 (0, 0)) ∧
  RW 22 1 (ItK K) wr w1.heap.size xK K.length csK BiK ∧ RW 26 5 (ItV d L) wr w1.heap.size xL L.length csL BiL ∧
  (∀ b ∈ xK.ownBlock.toList ++ BiK.flatten, b ∉ xL.ownBlock.toList ++ BiL.flatten) ∧ (∀ b ∈ (xK.ownBlock.toList ++ BiK.flatten) ++ (xL.ownBlock.toList ++ BiL.flatten), b < N) ∧ N ≤ wr.heap.size ∧ RdC T xs wr g a cap p q ∧ g < B ∧ B < w1.heap.size

theorem RW.more {T : TypeId} {s : Nat} {It It' : World → Nat → List Value → List Nat → Prop} {base : Nat} {x : Value} {n : Nat} {cs : List (List Value)} {Bi : List (List Nat)} (h : RW T s It w base x n cs Bi) (hIt : ∀ i c B, i < n → It w i c B → It' w i c B) : RW T s It' w base x n cs Bi := by
  obtain ⟨h1, h2, h3, h4, h5, h6⟩ := h
  exact ⟨h1, h2, h3, fun i hi => hIt _ _ _ hi (h4 i hi), h5, h6⟩

/-- One item more, in blocks that the row does not have. -/
theorem RW.put {T : TypeId} {s : Nat} {It : World → Nat → List Value → List Nat → Prop} (hIt : ∀ w w' i c B, It w i c B → Agree (fun b => b ∈ B) w w' → It w' i c B) {w2 w3 : World} {base : Nat} {x : Value} {n : Nat} {cs : List (List Value)} {Bi : List (List Nat)} {c : List Value} {Bv : List Nat} {g cap : Nat}
    (h : RW T s It w2 base x n cs Bi) (hc : It w2 n c Bv) (hBv : ∀ b ∈ Bv, base ≤ b ∧ b < w2.heap.size ∧ b ∉ x.ownBlock.toList ++ Bi.flatten) (hBn : Bv.Nodup)
    (hown : w3.ownsRow base T s (.slice (some ⟨g, 0, none⟩) (n + 1) cap) (n + 1) (cs.flatten ++ c)) (hg : w2.grownBy w3 x.ownBlock) (hat : x.ownBlock = some g ∨ g = w2.heap.size) :
    RW T s It w3 base (.slice (some ⟨g, 0, none⟩) (n + 1) cap) (n + 1) (cs ++ [c]) (Bi ++ [Bv]) := by
  obtain ⟨h1, h2, h3, h4, h5, h6⟩ := h
  have hlt := hown.lt g rfl
  have hsz := hg.size
  have hfl : ∀ b ∈ Bi.flatten, base ≤ b ∧ b < w2.heap.size := fun b hb => h6 b (by simp only [List.mem_append]; exact .inr hb)
  have hdis : ∀ b ∈ Bi.flatten, x.ownBlock ≠ some b := by
    intro b hb hx
    rw [hx] at h5
    simp only [Option.toList_some, List.nodup_append] at h5
    exact h5.2.2 b (by simp) b hb rfl
  refine ⟨by simp [h1], by simp [h2], by simpa using hown, fun i hi => ?_, ?_, ?_⟩
  · by_cases hin : i < n
    · have e1 : (cs ++ [c]).getD i [] = cs.getD i [] := by simp [List.getD_eq_getElem?_getD, List.getElem?_append_left (show i < cs.length by omega)]
      have e2 : (Bi ++ [Bv]).getD i [] = Bi.getD i [] := by simp [List.getD_eq_getElem?_getD, List.getElem?_append_left (show i < Bi.length by omega)]
      rw [e1, e2]
      refine hIt _ _ _ _ _ (h4 i hin) fun b hb => ?_
      have hm := mem_flat hb
      have hb' := hfl b hm
      exact hg.block b (by omega) (fun e => hdis b hm e.symm)
    · have hin' : i = n := by omega
      subst hin'
      have e1 : (cs ++ [c]).getD i [] = c := by rw [← h1]; simp [List.getD_eq_getElem?_getD]
      have e2 : (Bi ++ [Bv]).getD i [] = Bv := by rw [← h2]; simp [List.getD_eq_getElem?_getD]
      rw [e1, e2]
      refine hIt _ _ _ _ _ hc fun b hb => ?_
      have hb' := hBv b hb
      exact hg.block b hb'.2.1 (fun e => hb'.2.2 (by simp [← e]))
  · have hmid : (Bi.flatten ++ Bv).Nodup := by
      rw [List.nodup_append]
      refine ⟨(List.nodup_append.1 h5).2.1, hBn, fun a ha' b hb' e => ?_⟩
      subst e
      exact (hBv a hb').2.2 (by simp only [List.mem_append]; exact .inr ha')
    have hgn : g ∉ Bi.flatten ++ Bv := by
      intro hm
      rcases hat with hx | hx
      · rcases List.mem_append.1 hm with h' | h'
        · exact hdis g h' hx
        · exact (hBv g h').2.2 (by simp [hx])
      · rcases List.mem_append.1 hm with h' | h'
        · have := hfl g h'; omega
        · have := hBv g h'; omega
    simp only [Value.ownBlock, Option.toList_some, List.flatten_append, List.flatten_singleton, List.singleton_append]
    exact List.nodup_cons.2 ⟨hgn, hmid⟩
  · intro b hb
    simp only [Value.ownBlock, Option.toList_some, List.flatten_append, List.flatten_singleton, List.singleton_append, List.mem_cons, List.mem_append] at hb
    rcases hb with rfl | hb | hb
    · exact hlt
    · have := hfl b hb; omega
    · have := hBv b hb; omega

theorem itK_more {K : List (List Int)} (t : List Int) : ∀ i c B, i < K.length → ItK K w i c B → ItK (K ++ [t]) w i c B := by
  rintro i c B hi ⟨u, rfl, h⟩
  exact ⟨u, rfl, by simpa [List.getD_eq_getElem?_getD, List.getElem?_append_left hi] using h⟩
theorem itV_more {d : Nat} {L : List (Vl d)} (t : Vl d) : ∀ i c B, i < L.length → ItV d L w i c B → ItV d (L ++ [t]) w i c B := by
  rintro i c B hi ⟨e, rfl, h, hv⟩
  exact ⟨e, rfl, by simp; omega, by simpa [List.getElem_append_left hi] using hv⟩
theorem itK_new {K : List (List Int)} {t : List Int} {u : Value} {B : List Nat} (h : TOwn w u t B) : ItK (K ++ [t]) w K.length [u] B := ⟨u, rfl, by simpa [List.getD_eq_getElem?_getD] using h⟩
theorem itV_new {d : Nat} {L : List (Vl d)} {t : Vl d} {e : Value × Value × Value × Value × Value} {B : List Nat} (h : VOwn w d e t B) : ItV d (L ++ [t]) w L.length (enc5 e) B := ⟨e, rfl, by simp, by simpa using h⟩

section
variable {B d : Nat} {kd : Int} {K : List (List Int)} {L : List (Vl d)} {N : Nat} {xK xL : Value} {csK csL : List (List Value)} {BiK BiL : List (List Nat)}

/-- Whatever leaves all but the reader's own block. -/
theorem RInv.on (h : RInv T xs g a cap w1 B d kd K L p q N wr xK csK BiK xL csL BiL) (hg : wr.grownBy w5 (some g)) (hc : RdC T xs w5 g a cap p' q') : RInv T xs g a cap w1 B d kd K L p' q' N w5 xK csK BiK xL csL BiL := by
  obtain ⟨⟨f1, f2, f3, f4, f5⟩, h2, h3, h4, h5, h6, h7, h8, h9, h10⟩ := h
  have hz := hg.size
  refine ⟨⟨hg.os.trans f1, hg.tape.trans f2, hg.output.trans f3, by omega, fun b hb hB hne => (hg.block b (by omega) (by simpa using hne)).trans (f5 b hb hB hne)⟩, (hg.block B (by omega) (by simp; omega)).trans h2, ?_, ?_, h5, h6, by omega, hc, h9, h10⟩
  · exact h3.agree (ItK.agree K) (fun b hb => hg.block b (h3.2.2.2.2.2 b hb).2 (by have := (h3.2.2.2.2.2 b hb).1; simp; omega)) hz
  · exact h4.agree (ItV.agree d L) (fun b hb => hg.block b (h4.2.2.2.2.2 b hb).2 (by have := (h4.2.2.2.2.2 b hb).1; simp; omega)) hz

theorem RInv.alloc (h : RInv T xs g a cap w1 B d kd K L p q N wr xK csK BiK xL csL BiL) (o : Obj) : RInv T xs g a cap w1 B d kd K L p q N (wr.alloc o) xK csK BiK xL csL BiL :=
  h.on (World.grownBy_alloc wr o _) (h.2.2.2.2.2.2.2.1.keep fun b hb => Below.heap_alloc _ _ _ (by have := h.2.2.2.2.2.2.2.1.lt; omega))

theorem RInv.same (h : RInv T xs g a cap w1 B d kd K L p q N wr xK csK BiK xL csL BiL) (e : w5.heap = wr.heap) (e1 : w5.os = wr.os) (e2 : w5.tape = wr.tape) (e3 : w5.output = wr.output) : RInv T xs g a cap w1 B d kd K L p q N w5 xK csK BiK xL csL BiL :=
  h.on ⟨e1, e2, e3, by rw [e]; exact Nat.le_refl _, fun b _ _ => by rw [e]⟩ (h.2.2.2.2.2.2.2.1.heap e)

theorem rinv_k {t : List Int} {u : Value} {Bv : List Nat} {gn cp : Nat} (h : RInv T xs g a cap w1 B d kd K L p q N w5 xK csK BiK xL csL BiL) (hv : TOwn w5 u t Bv) (hBv : ∀ b ∈ Bv, N ≤ b ∧ w1.heap.size ≤ b ∧ b < w5.heap.size) (hBn : Bv.Nodup)
    (hown : w6.ownsRow w1.heap.size 22 1 (.slice (some ⟨gn, 0, none⟩) (K.length + 1) cp) (K.length + 1) (csK.flatten ++ [u])) (hg : w5.grownBy w6 xK.ownBlock) (hat : xK.ownBlock = some gn ∨ gn = w5.heap.size) :
    w6.heap[B]? = some (.cells #[.int .i64 kd, .int .i64 0, .slice none 0 0, xK, xL] 26 (0, 0)) ∧
      RInv T xs g a cap w1 B d kd (K ++ [t]) L p q w6.heap.size (w6.setCell ⟨B, 3, none⟩ (.slice (some ⟨gn, 0, none⟩) (K.length + 1) cp)) (.slice (some ⟨gn, 0, none⟩) (K.length + 1) cp) (csK ++ [[u]]) (BiK ++ [Bv]) xL csL BiL := by
  obtain ⟨⟨f1, f2, f3, f4, f5⟩, h2, h3, h4, h5, h6, h7, h8, h9, h10⟩ := h
  have hz := hg.size
  have hKb := h3.2.2.2.2.2
  have hLb := h4.2.2.2.2.2
  have hxlt := h3.2.2.1.lt
  have hneB : some B ≠ xK.ownBlock := fun e => by have := hxlt B e.symm; omega
  have hV6 := (hg.block B (by omega) hneB).trans h2
  have hA := grown1 w6 B 3 (.slice (some ⟨gn, 0, none⟩) (K.length + 1) cp)
  have hsA : (w6.setCell ⟨B, 3, none⟩ (.slice (some ⟨gn, 0, none⟩) (K.length + 1) cp)).heap.size = w6.heap.size := by simp [World.setCell]
  have hR := RW.put (ItK.agree (K ++ [t])) (h3.more (itK_more t)) (itK_new hv) (fun b hb => ⟨(hBv b hb).2.1, (hBv b hb).2.2, fun hm => by have h1 := h6 b (by simp only [List.mem_append] at hm ⊢; exact .inl hm); have := hBv b hb; omega⟩) hBn hown hg hat
  have hLK : ∀ b ∈ xL.ownBlock.toList ++ BiL.flatten, some b ≠ xK.ownBlock := fun b hb e => h5 b (by simp [← e]) hb
  have hsame : ∀ b, b ≠ B → (w6.setCell ⟨B, 3, none⟩ (.slice (some ⟨gn, 0, none⟩) (K.length + 1) cp)).heap[b]? = w6.heap[b]? := fun b hb => Below.heap_setCell w6 _ _ b (by show b ≠ B; exact hb)
  refine ⟨hV6, ⟨hg.os.trans f1, hg.tape.trans f2, hg.output.trans f3, by omega, fun b hb hB hne => ?_⟩, heap_setCell_same w6 B 3 _ _ _ hV6, ?_, ?_, ?_, ?_, by omega, ?_, h9, h10⟩
  · exact (hsame b hB).trans ((hg.block b (by omega) (fun e => by have := hxlt b e.symm; omega)).trans (f5 b hb hB hne))
  · have := hR.agree (ItK.agree (K ++ [t])) (w' := w6.setCell ⟨B, 3, none⟩ (.slice (some ⟨gn, 0, none⟩) (K.length + 1) cp)) (fun b hb => hsame b (by have := hR.2.2.2.2.2 b hb; omega)) (by omega)
    simpa using this
  · exact h4.agree (ItV.agree d L) (fun b hb => (hsame b (by have := hLb b hb; omega)).trans (hg.block b (hLb b hb).2 (hLK b hb))) (by omega)
  · intro b hb hbL
    simp only [Value.ownBlock, Option.toList_some, List.flatten_append, List.flatten_singleton, List.singleton_append, List.mem_cons, List.mem_append] at hb
    rcases hb with rfl | hb | hb
    · rcases hat with hx | hx
      · exact h5 b (by simp [hx]) hbL
      · have := hLb b hbL; omega
    · exact h5 b (by simp [hb]) hbL
    · have h1 := h6 b (by simp only [List.mem_append] at hbL ⊢; exact .inr hbL)
      have := hBv b hb; omega
  · intro b hb
    rcases List.mem_append.1 hb with hb | hb
    · have := (hR.2.2.2.2.2 b hb).2; omega
    · have := (hLb b hb).2; omega
  · refine h8.keep fun b hb => (hsame b (by omega)).trans (hg.block b (by omega) (fun e => by have := hxlt b e.symm; omega))

theorem rinv_l {t : Vl d} {e5 : Value × Value × Value × Value × Value} {Bv : List Nat} {gn cp : Nat} (h : RInv T xs g a cap w1 B d kd K L p q N w5 xK csK BiK xL csL BiL) (hv : VOwn w5 d e5 t Bv) (hBv : ∀ b ∈ Bv, N ≤ b ∧ w1.heap.size ≤ b ∧ b < w5.heap.size) (hBn : Bv.Nodup)
    (hown : w6.ownsRow w1.heap.size 26 5 (.slice (some ⟨gn, 0, none⟩) (L.length + 1) cp) (L.length + 1) (csL.flatten ++ enc5 e5)) (hg : w5.grownBy w6 xL.ownBlock) (hat : xL.ownBlock = some gn ∨ gn = w5.heap.size) :
    w6.heap[B]? = some (.cells #[.int .i64 kd, .int .i64 0, .slice none 0 0, xK, xL] 26 (0, 0)) ∧
      RInv T xs g a cap w1 B d kd K (L ++ [t]) p q w6.heap.size (w6.setCell ⟨B, 4, none⟩ (.slice (some ⟨gn, 0, none⟩) (L.length + 1) cp)) xK csK BiK (.slice (some ⟨gn, 0, none⟩) (L.length + 1) cp) (csL ++ [enc5 e5]) (BiL ++ [Bv]) := by
  obtain ⟨⟨f1, f2, f3, f4, f5⟩, h2, h3, h4, h5, h6, h7, h8, h9, h10⟩ := h
  have hz := hg.size
  have hKb := h3.2.2.2.2.2
  have hLb := h4.2.2.2.2.2
  have hxlt := h4.2.2.1.lt
  have hneB : some B ≠ xL.ownBlock := fun e => by have := hxlt B e.symm; omega
  have hV6 := (hg.block B (by omega) hneB).trans h2
  have hA := grown1 w6 B 4 (.slice (some ⟨gn, 0, none⟩) (L.length + 1) cp)
  have hsA : (w6.setCell ⟨B, 4, none⟩ (.slice (some ⟨gn, 0, none⟩) (L.length + 1) cp)).heap.size = w6.heap.size := by simp [World.setCell]
  have hR := RW.put (ItV.agree d (L ++ [t])) (h4.more (itV_more t)) (itV_new hv) (fun b hb => ⟨(hBv b hb).2.1, (hBv b hb).2.2, fun hm => by have h1 := h6 b (by simp only [List.mem_append] at hm ⊢; exact .inr hm); have := hBv b hb; omega⟩) hBn hown hg hat
  have hKL : ∀ b ∈ xK.ownBlock.toList ++ BiK.flatten, some b ≠ xL.ownBlock := fun b hb e => h5 b hb (by simp [← e])
  have hsame : ∀ b, b ≠ B → (w6.setCell ⟨B, 4, none⟩ (.slice (some ⟨gn, 0, none⟩) (L.length + 1) cp)).heap[b]? = w6.heap[b]? := fun b hb => Below.heap_setCell w6 _ _ b (by show b ≠ B; exact hb)
  refine ⟨hV6, ⟨hg.os.trans f1, hg.tape.trans f2, hg.output.trans f3, by omega, fun b hb hB hne => ?_⟩, heap_setCell_same w6 B 4 _ _ _ hV6, ?_, ?_, ?_, ?_, by omega, ?_, h9, h10⟩
  · exact (hsame b hB).trans ((hg.block b (by omega) (fun e => by have := hxlt b e.symm; omega)).trans (f5 b hb hB hne))
  · exact h3.agree (ItK.agree K) (fun b hb => (hsame b (by have := hKb b hb; omega)).trans (hg.block b (hKb b hb).2 (hKL b hb))) (by omega)
  · have := hR.agree (ItV.agree d (L ++ [t])) (w' := w6.setCell ⟨B, 4, none⟩ (.slice (some ⟨gn, 0, none⟩) (L.length + 1) cp)) (fun b hb => hsame b (by have := hR.2.2.2.2.2 b hb; omega)) (by omega)
    simpa using this
  · intro b hb hbL
    simp only [Value.ownBlock, Option.toList_some, List.flatten_append, List.flatten_singleton, List.singleton_append, List.mem_cons, List.mem_append] at hbL
    rcases hbL with rfl | hbL | hbL
    · rcases hat with hx | hx
      · exact h5 b hb (by simp [hx])
      · have := hKb b hb; omega
    · exact h5 b hb (by simp [hbL])
    · have h1 := h6 b (by simp only [List.mem_append] at hb ⊢; exact .inl hb)
      have := hBv b hbL; omega
  · intro b hb
    rcases List.mem_append.1 hb with hb | hb
    · have := (hKb b hb).2; omega
    · have := (hR.2.2.2.2.2 b hb).2; omega
  · refine h8.keep fun b hb => (hsame b (by omega)).trans (hg.block b (by omega) (fun e => by have := hxlt b e.symm; omega))

/-- All of it: a value of the call's own. -/
theorem RInv.own (h : RInv T xs g a cap w1 B d kd K L p q N wr xK csK BiK xL csL BiL) : ∃ Bs, VOwn wr (d + 1) (.int .i64 kd, .int .i64 0, .slice none 0 0, xK, xL) (kd, 0, [], K, L) Bs ∧ ∀ b ∈ Bs, w1.heap.size ≤ b ∧ b < wr.heap.size := by
  obtain ⟨_, h2, h3, h4, h5, h6, h7, h8, h9, h10⟩ := h
  refine ⟨(xK.ownBlock.toList ++ BiK.flatten) ++ (xL.ownBlock.toList ++ BiL.flatten), (VOwn_succ _ _ _ _ _).2 ⟨rfl, rfl, [], xK.ownBlock.toList ++ BiK.flatten, xL.ownBlock.toList ++ BiL.flatten, ⟨⟨by simp, rfl, .inl ⟨rfl, rfl⟩⟩, .inl ⟨rfl, rfl⟩⟩, h3.kown, h4.lown, by simp, ?_⟩, fun b hb => ?_⟩
  · refine List.nodup_append.2 ⟨h3.2.2.2.2.1, h4.2.2.2.2.1, fun x hx y hy e => h5 x hx (by rw [e]; exact hy)⟩
  · rcases List.mem_append.1 hb with hb | hb
    · exact h3.2.2.2.2.2 b hb
    · exact h4.2.2.2.2.2 b hb

theorem RInv.shapes (h : RInv T xs g a cap w1 B d kd K L p q N wr xK csK BiK xL csL BiL) : (∃ s c, xK = .slice s K.length c) ∧ ∃ s c, xL = .slice s L.length c := by
  obtain ⟨_, h2, h3, h4, _⟩ := h
  constructor
  · rcases h3.2.2.1.2 with ⟨rfl, h0⟩ | ⟨g, cap, cur, rfl, _⟩
    · exact ⟨none, 0, by rw [h0]⟩
    · exact ⟨_, _, rfl⟩
  · rcases h4.2.2.1.2 with ⟨rfl, h0⟩ | ⟨g, cap, cur, rfl, _⟩
    · exact ⟨none, 0, by rw [h0]⟩
    · exact ⟨_, _, rfl⟩
end
end Go.Proofs.Ytmdmiiikbdnioaa
