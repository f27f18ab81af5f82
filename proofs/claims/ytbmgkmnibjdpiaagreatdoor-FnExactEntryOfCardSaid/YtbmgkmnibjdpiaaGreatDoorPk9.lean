/-
  Texts that a law leans on, one behind the other; no statement is proved here.
-/
import Derived.Test.YtbmgkmnibjdpiaaGreatDoorPk8
import Derived.Test.YtbmgkmnibjdpiaaGreatDoorPk2
import Derived.OwnWalk
/-
  States: a number, a bool, a text, a number, a list of entries: read, their size, held against one another, copied in blocks of their own.
-/
namespace Go.Proofs.YtbmgkmnibjdpiaaGreatDoor
open Go.RowKit
set_option linter.unusedVariables false
set_option linter.unusedSimpArgs false

/-- A state: serial, open, pending, act, entries. -/
def Stt (d : Nat) : Type := Int × Bool × List Int × Int × List (Ntr d)

/-- Five cells that read as a state. -/
def SaSg (R : Nat → Prop) (w : World) (d : Nat) (cs : List Value) (s : Stt d) : Prop :=
  ∃ c2 c4, cs = [.int .i64 s.1, .bool s.2.1, c2, .int .i64 s.2.2.2.1, c4] ∧ TSeg R w c2 s.2.2.1 ∧ NtLS R w d c4 s.2.2.2.2

def SaSz (d : Nat) (s : Stt d) : Prop := s.2.2.1.length ≤ 1048576 ∧ s.2.2.2.2.length ≤ 1048576 ∧ ∀ i (h : i < s.2.2.2.2.length), NtSz d s.2.2.2.2[i]

theorem NtLS.mono {R R' : Nat → Prop} {w : World} {d : Nat} {x : Value} {l : List (Ntr d)} (h : NtLS R w d x l) (hr : ∀ b, R b → R' b) : NtLS R' w d x l := by
  obtain ⟨a, c, e, h1, h2, h3, h4⟩ := h
  refine ⟨a, c, e, h1, h2, h3, ?_⟩
  rcases h4 with h4 | ⟨b, off, ha, hb, hc⟩
  · exact .inl h4
  · refine .inr ⟨b, off, ha, hr _ hb, fun i hi => ?_⟩
    obtain ⟨cs, h5, h6⟩ := hc i hi
    exact ⟨cs, h5, h6.mono hr⟩
theorem SaSg.agree {R : Nat → Prop} {w w' : World} {d : Nat} {cs : List Value} {s : Stt d} (h : SaSg R w d cs s) (ha : Agree R w w') : SaSg R w' d cs s := by
  obtain ⟨c2, c4, e, h1, h2⟩ := h
  exact ⟨c2, c4, e, h1.agree ha, h2.agree ha⟩
theorem SaSg.mono {R R' : Nat → Prop} {w : World} {d : Nat} {cs : List Value} {s : Stt d} (h : SaSg R w d cs s) (hr : ∀ b, R b → R' b) : SaSg R' w d cs s := by
  obtain ⟨c2, c4, e, h1, h2⟩ := h
  exact ⟨c2, c4, e, h1.mono hr, h2.mono hr⟩
theorem SaSg.form {R : Nat → Prop} {w : World} {d : Nat} {cs : List Value} {s : Stt d} (h : SaSg R w d cs s) : ∃ pa pc ea ec, cs = [.int .i64 s.1, .bool s.2.1, .slice pa s.2.2.1.length pc, .int .i64 s.2.2.2.1, .slice ea s.2.2.2.2.length ec] ∧ TSeg R w (.slice pa s.2.2.1.length pc) s.2.2.1 ∧ NtLS R w d (.slice ea s.2.2.2.2.length ec) s.2.2.2.2 := by
  obtain ⟨c2, c4, rfl, h1, h2⟩ := h
  have h1' := h1
  have h2' := h2
  obtain ⟨pa, pc, rfl, _⟩ := h1
  obtain ⟨ea, ec, rfl, _⟩ := h2
  exact ⟨pa, pc, ea, ec, rfl, h1', h2'⟩

/-- What szState leaves. -/
def SzSaE (d : Nat) (s : Stt d) (w : World) (e : Ending) (w' : World) : Prop := (e = .returned (.int .i64 (-1)) ∨ ∃ n : Int, 0 ≤ n ∧ n ≤ 1048576 ∧ e = .returned (.int .i64 n) ∧ SaSz d s) ∧ Below w.heap.size w w'

set_option maxHeartbeats 1600000 in
theorem szState_any (d N : Nat) (cs : List Value) (s : Stt d) (w : World) (hx : SaSg (fun b => b < N) w d cs s) (hN : N ≤ w.heap.size) :
    Calls Tryz.prog 5 #[.agg cs.toArray, .int .i64 1048576] w (SzSaE d s w) := by
  obtain ⟨pa, pc, ea, ec, rfl, ht, he⟩ := hx.form
  obtain ⟨s0, s1, nm, s3, l⟩ := s
  simp only at ht he ⊢
  have HA : Hid (∀ o : Obj, Below w.heap.size w (w.alloc o)) := fun o => (Below.refl _ _).alloc (Nat.le_refl _) o
  have hnm : nm.length ≤ maxLen := by obtain ⟨a, c, e, _, h2, h3, _⟩ := ht; omega
  have HT : Hid (∀ wx, Calls Tryz.prog 19 #[.slice pa nm.length pc, .int .i64 1048576] wx fun e w' => e = .returned (.int .i64 (less 1048576 nm.length)) ∧ wx = w') := fun wx => szByteS_any pa nm.length pc 1048576 wx (by omega) (by omega) hnm
  have HS : Hid (∀ (o : Obj) (m : Int), 0 ≤ m → m ≤ 1048576 → Calls Tryz.prog 20 #[.slice ea l.length ec, .int .i64 m] (w.alloc o) (SzNtE d l (w.alloc o))) := fun o m h0 h1 => szEntryS_any d N _ l m h0 h1 (w.alloc o) (he.agree (agree_below ((HA.out o).mono hN))) (by have := (HA.out o).size; omega)
  have HEnd : Hid (∀ e w', SzSaE d (s0, s1, nm, s3, l) w e w' ↔ ((e = .returned (.int .i64 (-1)) ∨ ∃ n : Int, 0 ≤ n ∧ n ≤ 1048576 ∧ e = .returned (.int .i64 n) ∧ nm.length ≤ 1048576 ∧ l.length ≤ 1048576 ∧ ∀ i (h : i < l.length), NtSz d l[i]) ∧ Below w.heap.size w w')) := fun e w' => Iff.rfl
  clear ht he hx
  obtain ⟨sn, hsn⟩ : ∃ sn, sn = nm.length := ⟨_, rfl⟩
  rw [← hsn] at HT HEnd
  rw [← hsn]
  clear hsn hnm
  have HL : Hid (∀ o e w', SzNtE d l (w.alloc o) e w' → (e = .returned (.int .i64 (-1)) ∨ ∃ n : Int, 0 ≤ n ∧ n ≤ 1048576 ∧ e = .returned (.int .i64 n) ∧ l.length ≤ 1048576 ∧ ∀ i (h : i < l.length), NtSz d l[i]) ∧ Below (w.alloc o).heap.size (w.alloc o) w') := fun o e w' h => h
  obtain ⟨ln, hln⟩ : ∃ ln, ln = l.length := ⟨_, rfl⟩
  rw [← hln] at HS
  rw [← hln]
  clear hln
  show Calls _ _ _ _ fun e w' => SzSaE d (s0, s1, nm, s3, l) w e w'
  go_enter Tryz.func5, Tryz.ntmps5
  go_wp2_with fail
  refine (HT.out _).mono ?_
  rintro e w1 ⟨rfl, rfl⟩
  by_cases q0 : (1048576 : Int) < (sn : Int)
  · rw [less_no _ _ q0]
    go_wp2
    go_ret
    exact (HEnd.out _ _).2 ⟨.inl rfl, HA.out _⟩
  rw [less_yes _ _ q0]
  obtain ⟨n1, e1⟩ : ∃ m : Int, m = 1048576 - sn := ⟨_, rfl⟩
  rw [← e1]
  have g10 : 0 ≤ n1 := by omega
  have g11 : n1 ≤ 1048576 := by omega
  have z0 : sn ≤ 1048576 := by omega
  clear e1 q0
  go_wp2_with fail
  refine (HS.out _ n1 g10 g11).mono ?_
  intro e w2 hE
  obtain ⟨hcase, b1⟩ := HL.out _ _ _ hE
  have B1 := hide' (Below.on (HA.out _) b1)
  clear b1 HS hE HL
  rcases hcase with rfl | ⟨m, hm0, hm1, rfl, hlen, hall⟩
  · go_wp2
    go_ret
    exact (HEnd.out _ _).2 ⟨.inl rfl, B1.out⟩
  · have HAll := hide' hall
    have HLn := hide' hlen
    have hm' : ¬ m < 0 := by omega
    clear hall hlen
    go_wp2
    go_ret
    exact (HEnd.out _ _).2 ⟨.inr ⟨m, hm0, hm1, rfl, z0, HLn.out, HAll.out⟩, B1.out⟩

theorem five_row {w : World} {g : Nat} {T : TypeId} {c0 c1 c2 c3 c4 : Value} (h : w.heap[g]? = some (.cells #[c0, c1, c2, c3, c4] T (0, 0))) :
    w.cell? ⟨g, 0, none⟩ = some c0 ∧ w.cell? ⟨g, 1, none⟩ = some c1 ∧ w.cell? ⟨g, 2, none⟩ = some c2 ∧ w.cell? ⟨g, 3, none⟩ = some c3 ∧ w.cell? ⟨g, 4, none⟩ = some c4 := by
  refine ⟨?_, ?_, ?_, ?_, ?_⟩ <;> (rw [cell_of_row w g _ _ _ _ h]; rfl)

set_option maxHeartbeats 1600000 in
theorem eqState_any (d N : Nat) (cs cs' : List Value) (s : Stt d) (w : World) (hx : SaSg (fun b => b < N) w d cs s) (hy : SaSg (fun b => b < N) w d cs' s) (hN : N ≤ w.heap.size) (hz : SaSz d s) :
    Calls Tryz.prog 9 #[.agg cs.toArray, .agg cs'.toArray] w fun e w' => e = .returned (.bool true) ∧ Below w.heap.size w w' := by
  obtain ⟨pa, pc, ea, ec, rfl, ht, he⟩ := hx.form
  obtain ⟨pa', pc', ea', ec', rfl, ht', he'⟩ := hy.form
  obtain ⟨s0, s1, nm, s3, l⟩ := s
  obtain ⟨z0, z1, z2⟩ := hz
  simp only at ht he ht' he' z0 z1 z2 ⊢
  have hA : ∀ wx, Below w.heap.size w wx → Agree (fun b => b < N) w wx := fun wx hb => agree_below (hb.mono hN)
  have Hb : Hid (∀ o o' : Obj, Below w.heap.size w ((w.alloc o).alloc o')) := fun o o' => ((Below.refl _ _).alloc (Nat.le_refl _) o).alloc (by simp) o'
  have HT : Hid (∀ wx, Below w.heap.size w wx → Calls Tryz.prog 14 #[.slice pa nm.length pc, .slice pa' nm.length pc'] wx fun e w' => e = .returned (.bool true) ∧ Below wx.heap.size wx w') := fun wx hb => by
    obtain ⟨_, _, e1, s1, _⟩ := ht.agree (hA wx hb)
    obtain ⟨_, _, e2, s2, _⟩ := ht'.agree (hA wx hb)
    simp at e1 e2
    obtain ⟨rfl, _⟩ := e1
    obtain ⟨rfl, _⟩ := e2
    exact eqByteS_same _ _ _ _ nm wx s1 s2 (by omega)
  have HC : Hid (∀ wx, Below w.heap.size w wx → Calls Tryz.prog 27 #[.slice ea l.length ec, .slice ea' l.length ec'] wx fun e w' => e = .returned (.bool true) ∧ Below wx.heap.size wx w') := fun wx hb => eqEntryS_any d N _ _ l wx (he.agree (hA wx hb)) (he'.agree (hA wx hb)) (by have := hb.size; omega) z1 z2
  have Hbox : Hid (∀ o o' wx, Below ((w.alloc o).alloc o').heap.size ((w.alloc o).alloc o') wx → wx.heap[w.heap.size]? = some o ∧ wx.heap[w.heap.size + 1]? = some o') := fun o o' wx h => ⟨(h.block _ (by simp; omega)).trans (two_boxes w o o').1, (h.block _ (by simp)).trans (two_boxes w o o').2⟩
  clear hx hy ht he ht' he' hA z0 z1 z2
  generalize l.length = ll at *
  generalize nm.length = nl at *
  go_enter Tryz.func9, Tryz.ntmps9
  go_wp2_with fail
  refine (HT.out _ (Hb.out _ _)).mono ?_
  rintro e w1 ⟨rfl, b1⟩
  obtain ⟨r1, r2⟩ := Hbox.out _ _ _ b1
  obtain ⟨x0, x1, x2, x3, x4⟩ := five_row r1
  obtain ⟨y0, y1, y2, y3, y4⟩ := five_row r2
  have B1 := hide' (Below.on (Hb.out _ _) b1)
  clear b1 r1 r2 HT
  go_wp2_with fail
  refine (HC.out _ B1.out).mono ?_
  rintro e w2 ⟨rfl, b2⟩
  have B2 := hide' (Below.on B1.out b2)
  clear b2 B1 x0 x1 x2 x3 x4 y0 y1 y2 y3 y4
  go_wp2
  go_ret
  exact ⟨rfl, B2.out⟩

/-- A state of the call's own: its text, its entries' row and their blocks are just B. -/
def SaOwn (w : World) (d : Nat) (cs : List Value) (s : Stt d) (B : List Nat) : Prop :=
  ∃ c2 B2 g c sf, cs = [.int .i64 s.1, .bool s.2.1, c2, .int .i64 s.2.2.2.1, .slice (some ⟨g, 0, none⟩) s.2.2.2.2.length c] ∧ TOwn w c2 s.2.2.1 B2 ∧ s.2.2.2.2.length ≤ c ∧ c ≤ maxLen ∧ NtLO w d g s.2.2.2.2 sf s.2.2.2.2.length ∧ B = B2 ++ List.range' g (sf s.2.2.2.2.length - g) ∧ ∀ b ∈ B2, b < g

section
variable {w w' : World} {d : Nat} {cs : List Value} {s : Stt d} {B : List Nat}
theorem SaOwn.lt (h : SaOwn w d cs s B) : ∀ b ∈ B, b < w.heap.size := by
  obtain ⟨c2, B2, g, c, sf, rfl, h1, _, _, hR, rfl, _⟩ := h
  intro b hb
  have h3 := hR.2.2.2.1
  have h2 := ntlo_win hR
  simp only [List.mem_append, List.mem_range'_1] at hb
  rcases hb with hb | hb
  · exact h1.lt b hb
  · omega
theorem SaOwn.on (h : SaOwn w d cs s B) (hb : Below w.heap.size w w') : SaOwn w' d cs s B := by
  obtain ⟨c2, B2, g, c, sf, rfl, h1, h2, h3, hR, rfl, h4⟩ := h
  exact ⟨c2, B2, g, c, sf, rfl, h1.agree fun b hb' => hb.block b (h1.lt b hb'), h2, h3, ntlo_agree hR hb.size fun b _ hb2 => hb.block b (by have := hR.2.2.2.1; omega), rfl, h4⟩
theorem SaOwn.read (h : SaOwn w d cs s B) : SaSg (fun b => b < w.heap.size) w d cs s := by
  obtain ⟨c2, B2, g, c, sf, rfl, h0, h1, h2, hR, rfl, h3⟩ := h
  have hw := ntlo_win hR
  have h4 := hR.2.2.2.1
  refine ⟨_, _, rfl, h0.seg.mono fun b hb => h0.lt b hb, _, _, rfl, h1, h2, by simp, .inr ⟨g, 0, rfl, by omega, fun i hi => ?_⟩⟩
  obtain ⟨cs, B, hr, ho, hB⟩ := hR.2.2.2.2 i hi hi
  exact ⟨cs, by rw [Nat.zero_add]; exact hr, ho.read⟩
end

/-- What toState leaves. -/
def SaEndO (d : Nat) (s : Stt d) (w : World) (e : Ending) (w' : World) : Prop := ∃ cs, e = .returned (.agg cs.toArray) ∧ ∃ B, SaOwn w' d cs s B ∧ (∀ b ∈ B, w.heap.size ≤ b ∧ b < w'.heap.size) ∧ Below w.heap.size w w'

set_option maxHeartbeats 3200000 in
theorem toStateO_any (d N : Nat) (cs : List Value) (s : Stt d) (w : World) (hx : SaSg (fun b => b < N) w d cs s) (hN : N ≤ w.heap.size) (hz : SaSz d s) :
    Calls Tryz.prog 7 #[.agg cs.toArray] w (SaEndO d s w) := by
  obtain ⟨pa, pc, ea, ec, rfl, ht, he⟩ := hx.form
  obtain ⟨s0, s1, nm, s3, l⟩ := s
  obtain ⟨z0, z1, z2⟩ := hz
  simp only at ht he z0 z1 z2 ⊢
  have hA : ∀ wx, Below w.heap.size w wx → Agree (fun b => b < N) w wx := fun wx hb => agree_below (hb.mono hN)
  have HT : Hid (∀ wx, Below w.heap.size w wx → w.heap.size + 3 ≤ wx.heap.size → Calls Tryz.prog 11 #[.slice pa nm.length pc] wx fun e w' => ∃ g c, e = .returned (.slice (some ⟨g, 0, none⟩) nm.length c) ∧ TW (w.heap.size + 3) w'.heap.size w' (.slice (some ⟨g, 0, none⟩) nm.length c) nm ∧ Below wx.heap.size wx w') := fun wx hb hs => by
    obtain ⟨_, _, e1, s1, _⟩ := ht.agree (hA wx hb)
    simp at e1
    obtain ⟨rfl, _⟩ := e1
    refine (toByteS_any _ _ nm wx s1 (by omega)).mono ?_
    rintro e w' ⟨rfl, hB, b⟩
    refine ⟨_, _, rfl, ⟨_, tOwn_new hB, fun b' hb' => ?_⟩, b⟩
    have h1 := (tOwn_new hB).lt b' hb'
    simp at hb'
    exact ⟨by omega, h1⟩
  have HX : Hid (∀ wx, Below w.heap.size w wx → Calls Tryz.prog 25 #[.slice ea l.length ec] wx (NtLEnd d l wx)) := fun wx hb => toEntrySO_any d N _ l wx (he.agree (hA wx hb)) (by have := hb.size; omega) z1 z2
  have H3 := hide' (bx_start w 25 30 #[.int .i64 s0, .bool s1, .slice pa nm.length pc, .int .i64 s3, .slice ea l.length ec] #[.int .i64 0, .bool false, .slice none 0 0, .int .i64 0, .slice none 0 0] #[.int .i64 s0, .bool s1, .slice none 0 0, .int .i64 0, .slice none 0 0])
  have HFin : Hid (∀ e w', (∃ c2 B2 g c sf, e = Ending.returned (.agg #[.int .i64 s0, .bool s1, c2, .int .i64 s3, .slice (some ⟨g, 0, none⟩) l.length c]) ∧ TOwn w' c2 nm B2 ∧ l.length ≤ c ∧ c ≤ maxLen ∧ NtLO w' d g l sf l.length ∧ (∀ b ∈ B2, w.heap.size ≤ b ∧ b < g) ∧ w.heap.size ≤ g ∧ Below w.heap.size w w') → SaEndO d (s0, s1, nm, s3, l) w e w') := by
    rintro e w' ⟨c2, B2, g, c, sf, rfl, h1, h2, h3, h4, h5, h6, h7⟩
    refine ⟨[.int .i64 s0, .bool s1, c2, .int .i64 s3, .slice (some ⟨g, 0, none⟩) l.length c], rfl, _, ⟨c2, B2, g, c, sf, rfl, h1, h2, h3, h4, rfl, fun b hb => (h5 b hb).2⟩, fun b hb => ?_, h7⟩
    have hw := ntlo_win h4
    have h8 := h4.2.2.2.1
    simp only [List.mem_append, List.mem_range'_1] at hb
    rcases hb with hb | hb
    · exact ⟨(h5 b hb).1, h1.lt b hb⟩
    · omega
  clear hx ht he hA z0 z1 z2
  show Calls _ _ _ _ fun e w' => SaEndO d (s0, s1, nm, s3, l) w e w'
  generalize SaEndO d (s0, s1, nm, s3, l) w = Q at *
  obtain ⟨ll, hll⟩ : ∃ ll, ll = l.length := ⟨_, rfl⟩
  have HLL : Hid (∀ wx e w', NtLEnd d l wx e w' → ∃ g c s, e = .returned (.slice (some ⟨g, 0, none⟩) ll c) ∧ ll ≤ c ∧ c ≤ maxLen ∧ NtLO w' d g l s l.length ∧ wx.heap.size ≤ g ∧ Below wx.heap.size wx w') := fun wx e w' h => by rw [hll]; exact h
  rw [← hll] at HX H3
  have HFin' : Hid (∀ e w', (∃ c2 B2 g c sf, e = Ending.returned (.agg #[.int .i64 s0, .bool s1, c2, .int .i64 s3, .slice (some ⟨g, 0, none⟩) ll c]) ∧ TOwn w' c2 nm B2 ∧ ll ≤ c ∧ c ≤ maxLen ∧ NtLO w' d g l sf l.length ∧ (∀ b ∈ B2, w.heap.size ≤ b ∧ b < g) ∧ w.heap.size ≤ g ∧ Below w.heap.size w w') → Q e w') := by rw [hll]; exact HFin
  rw [← hll]
  clear HFin hll
  obtain ⟨nl, hnl⟩ : ∃ nl, nl = nm.length := ⟨_, rfl⟩
  rw [← hnl] at HT H3
  rw [← hnl]
  clear hnl
  show Calls _ _ _ _ fun e w' => Q e w'
  go_enter Tryz.func7, Tryz.ntmps7
  go_wp2_with fail
  refine (HT.out _ H3.out.1 H3.out.2.2.2.2).mono ?_
  rintro e w1 ⟨g1, c1, rfl, hT1, b1⟩
  have hq := bx_below H3.out b1
  have hs1 := hide' (bx_set (bx_set hq 2 (.slice (some ⟨g1, 0, none⟩) nl c1) rfl) 3 (.int .i64 s3) rfl)
  have hg1 := grownBy_trans (grown1 w1 (w.heap.size + 1 + 1) 2 (.slice (some ⟨g1, 0, none⟩) nl c1)) (grown1 _ (w.heap.size + 1 + 1) 3 (.int .i64 s3))
  have HT1 := hide' (hT1.agree (win_turn hg1 (Nat.le_refl _) (Nat.le_refl _)))
  have hx1 := hg1.size
  obtain ⟨x0, x1, x2, x3, x4⟩ := five_row hq.2.1
  obtain ⟨t0, t1, t2, t3, t4⟩ := five_row hq.2.2.2.1
  have f2 := frozen_of_row _ _ 2 _ _ hq.2.2.2.1
  have f3 := frozen_of_row _ _ 3 _ _ hq.2.2.2.1
  simp at hs1
  clear hT1 b1 hq hg1 H3 HT
  go_wp2_with fail
  refine (HX.out _ hs1.out.1).mono ?_
  intro e w2 hE
  obtain ⟨ug, uc, us, rfl, hlc, hcm, hO, hug, b2⟩ := HLL.out _ _ _ hE
  have hq := bx_below hs1.out b2
  have h3s := hq.2.2.2.2
  have hz1 := b2.size
  have h3t := hs1.out.2.2.2.2
  obtain ⟨y0, y1, y2, y3, y4⟩ := five_row hq.2.2.1
  obtain ⟨c0', c1', c2', c3', c4'⟩ := five_row hq.2.2.2.1
  have yf := fun j => frozen_of_row _ _ j _ _ hq.2.2.1
  have yf0 := yf 0
  have yf1 := yf 1
  have yf2 := yf 2
  have yf3 := yf 3
  have yf4 := yf 4
  have cf4 := frozen_of_row _ _ 4 _ _ hq.2.2.2.1
  have gA := grown1 w2 (w.heap.size + 1 + 1) 4 (.slice (some ⟨ug, 0, none⟩) ll uc)
  have hrow0 := (gA.block _ (by omega) (by simp)).trans hq.2.2.1
  have gB := set5_grown (w2.setCell ⟨w.heap.size + 1 + 1, 4, none⟩ (.slice (some ⟨ug, 0, none⟩) ll uc)) (w.heap.size + 1) 0 (.int .i64 s0) (.bool s1) (.slice (some ⟨g1, 0, none⟩) nl c1) (.int .i64 s3) (.slice (some ⟨ug, 0, none⟩) ll uc)
  have Hk := hide' (set5_heap (j := 0) (w := w2.setCell ⟨w.heap.size + 1 + 1, 4, none⟩ (.slice (some ⟨ug, 0, none⟩) ll uc)) (.int .i64 s0) (.bool s1) (.slice (some ⟨g1, 0, none⟩) nl c1) (.int .i64 s3) (.slice (some ⟨ug, 0, none⟩) ll uc) hrow0)
  have HB := hide' ((hq.1.grown gA hq.1.size (by intro j hj; simp at hj; omega)).grown gB (by have := gA.size; have := hq.1.size; omega) (by intro j hj; simp at hj; omega))
  have HF := hide' (ntlo_agree (ntlo_agree hO gA.size (fun b h1 h2 => gA.block b (by have := hO.2.2.2.1; omega) (by simp; omega))) gB.size (fun b h1 h2 => gB.block b (by have := hO.2.2.2.1; have := gA.size; omega) (by simp; omega)))
  have HTT := hide' (((HT1.out.agree (win_below b2 hx1)).agree (win_turn gA (Nat.le_refl _) (by omega))).agree (fun b hb => gB.block b (by have := gA.size; omega) (by simp; omega)))
  clear hO b2 hq gA gB hrow0 hz1 hE HX HLL yf x0 x1 x2 x3 x4 t0 t1 t2 t3 t4 f2 f3 HT1 hs1
  go_wp2_with fail
  obtain ⟨u0, u1, u2, u3, u4⟩ := five_row Hk.out
  simp only [set5, Nat.zero_add] at u0 u1 u2 u3 u4
  refine bodyPost_ret (v := .agg #[.int .i64 s0, .bool s1, .slice (some ⟨g1, 0, none⟩) nl c1, .int .i64 s3, .slice (some ⟨ug, 0, none⟩) ll uc]) (by simp [results, Tryz.results7, go_sem, u0, u1, u2, u3, u4]) rfl ?_
  obtain ⟨B2, hB2, hB2'⟩ := HTT.out
  refine HFin'.out _ _ ⟨_, B2, ug, uc, us, rfl, hB2, hlc, hcm, HF.out, fun b hb => ?_, by omega, HB.out⟩
  have := hB2' b hb
  omega
end Go.Proofs.YtbmgkmnibjdpiaaGreatDoor
/-
  l4split of the specification: where an address is parted, and whether it is one.
-/
namespace Go.Proofs.YtbmgkmnibjdpiaaGreatDoor
open Go.RowKit
set_option linter.unusedVariables false

/-- What l4split answers. -/
def SplitEnd (a : Option Addr) (c : Nat) (xs : List Int) (w : World) (e : Ending) (w' : World) : Prop :=
  w = w' ∧ ∃ v1 v2, e = .returned (.tuple #[v1, v2, .bool (addrB xs)]) ∧ (addrB xs = true → v1 = .slice a (cutI xs) c)

theorem split_no {a : Option Addr} {c : Nat} {xs : List Int} {w : World} (h : addrB xs = false) (v1 v2 : Value) : SplitEnd a c xs w (.returned (.tuple #[v1, v2, .bool false])) w :=
  ⟨rfl, v1, v2, by rw [h], fun h' => by rw [h] at h'; cases h'⟩
theorem split_yes {a : Option Addr} {c k : Nat} {xs : List Int} {w : World} (h : addrB xs = true) (hk : cutI xs = k) (v2 : Value) : SplitEnd a c xs w (.returned (.tuple #[.slice a k c, v2, .bool true])) w :=
  ⟨rfl, _, v2, by rw [h], fun _ => by rw [hk]⟩

theorem getD_drop' (xs : List Int) (j i : Nat) : (xs.drop j).getD i 0 = xs.getD (j + i) 0 := by simp [List.getD_eq_getElem?_getD, List.getElem?_drop]
theorem getD_take' (xs : List Int) (s i : Nat) (h : i < s) : (xs.take s).getD i 0 = xs.getD i 0 := by simp [List.getD_eq_getElem?_getD, h]

/-- What stands between the brackets, as a piece. -/
def inner (xs : List Int) (k p : Nat) : List Int := (xs.drop (k + 1)).take (p + 1)
theorem inner_len {xs : List Int} {k p : Nat} (h : xs.length = k + (p + 3)) : (inner xs k p).length = p + 1 := by simp [inner]; omega
theorem inner_at {xs : List Int} {k p i : Nat} (h : i < p + 1) : (inner xs k p).getD i 0 = xs.getD (k + 1 + i) 0 := by
  unfold inner
  rw [getD_take' _ _ _ h, getD_drop']
theorem innR_at {xs : List Int} {k p : Nat} (h : xs.length = k + (p + 3)) : innR (xs.drop (k + 1)) = (decide (xs.getD (k + (p + 2)) 0 = 93) && innB (inner xs k p)) := by
  unfold innR inner
  have hl : (xs.drop (k + 1)).length = p + 2 := by simp; omega
  rw [hl, getD_drop', decide_eq_true (by omega : 2 ≤ p + 2)]
  have e : k + 1 + (p + 2 - 1) = k + (p + 2) := by omega
  rw [e]
  rfl
theorem innB_key {xs : List Int} {k p : Nat} (h : xs.length = k + (p + 3)) (h34 : xs.getD (k + 1) 0 = 34) : innB (inner xs k p) = (decide (3 ≤ p + 1) && decide (xs.getD (k + 1 + p) 0 = 34) && nameB ((xs.drop (k + 2)).take (p - 1))) := by
  unfold innB
  rw [inner_len h, inner_at (by omega), if_pos h34]
  have e : p + 1 - 1 = p := by omega
  have e2 : p + 1 - 2 = p - 1 := by omega
  rw [e, e2, inner_at (by omega)]
  have e3 : ((inner xs k p).drop 1).take (p - 1) = (xs.drop (k + 2)).take (p - 1) := by
    unfold inner
    rw [List.drop_take, List.drop_drop, List.take_take]
    congr 1
    omega
  rw [e3]
theorem innB_num {xs : List Int} {k p : Nat} (h : xs.length = k + (p + 3)) (h34 : ¬ xs.getD (k + 1) 0 = 34) : innB (inner xs k p) = (decide (p + 1 ≤ 2) && !(decide (p + 1 = 2) && decide (xs.getD (k + 1) 0 = 48)) && (inner xs k p).all digB) := by
  unfold innB
  rw [inner_len h, inner_at (by omega), if_neg h34]

/-- The first k are no bracket. -/
def noBr (xs : List Int) (k : Nat) : Prop := ∀ i, i < k → xs.getD i 0 ≠ 91

set_option maxHeartbeats 1600000 in
theorem l4split_any (a : Option Addr) (c : Nat) (xs : List Int) (w : World) (ha : Seg w a xs) (hcap : xs.length ≤ c) (hc2 : c ≤ maxLen) (ka : a = none → c = 0) :
    Calls Tryz.prog 40 #[.slice a xs.length c] w (SplitEnd a c xs w) := by
  unfold maxLen at hc2
  have hby := getD_byt ha.1
  generalize hn : xs.length = n at *
  have Hn : Hid (xs.length = n) := hn
  clear hn
  have HN : Hid (∀ s : Nat, s ≤ n → Calls Tryz.prog 56 #[.slice a s c] w fun e w' => e = .returned (.bool (nameB (xs.take s))) ∧ w = w') := by
    intro s hs
    have hl : (xs.take s).length = s := by have := Hn.out; simp; omega
    have := spec_NameOk_any a c (xs.take s) w (ha.front s (by have := Hn.out; omega)) (by rw [hl]; unfold maxLen; omega)
    rw [hl] at this
    exact this
  go_enter Tryz.func40, Tryz.ntmps40
  go_wp2
  go_loopw [5] (fun i wr => ∃ k : Nat, k ≤ n ∧ i = .int .i64 k ∧ noBr xs k ∧ wr = w) (fun i _ => n - (intOf i).toNat)
  case atStart => exact ⟨0, Nat.zero_le _, rfl, fun i h => by omega, rfl⟩
  case round =>
    obtain ⟨k, hk, rfl, hno, rfl⟩ := hrel
    by_cases hlt : k < n
    · obtain ⟨b, off, rfl, hc⟩ := ha.at (k := k) (by have := Hn.out; omega)
      have hlt' : (k : Int) < (n : Int) := by omega
      by_cases h91 : xs.getD k 0 = 91
      · have HC : Hid (cutI xs = k) := cutI_eq hno (.inr ⟨by have := Hn.out; omega, h91⟩)
        rw [h91] at hc
        have HK := hide' (HN.out k (by omega))
        have hne : ¬ cutI xs = xs.length := by have := HC.out; have := Hn.out; omega
        have HB : Hid (addrB xs = (nameB (xs.take k) && innR (xs.drop (k + 1)))) := by
          show addrB xs = _
          unfold addrB
          rw [decide_eq_false hne, HC.out, Bool.false_or]
        have hcell : ∀ i, i < n → wr.cell? ⟨b, off + i, none⟩ = some (.int .u8 (xs.getD i 0)) := by
          intro i hi
          obtain ⟨b', off', e, hc'⟩ := ha.at (k := i) (by have := Hn.out; omega)
          simp at e
          obtain ⟨rfl, rfl⟩ := e
          exact hc'
        have Hcell := hide' hcell
        have hck : ¬ c = k := by omega
        clear hcell hne hno
        cases hnb : nameB (xs.take k) with
        | false =>
          rw [hnb] at HK
          have HB' : Hid (addrB xs = false) := by show _ = false; rw [HB.out, hnb]; rfl
          clear hnb HB
          go_wp2_with fail
          refine HK.out.mono ?_
          rintro e w1 ⟨rfl, rfl⟩
          go_wp2
          go_ret3
          exact split_no HB'.out _ _
        | true =>
          rw [hnb] at HK HB
          have HB1 : Hid (addrB xs = innR (xs.drop (k + 1))) := by show addrB xs = _; rw [HB.out]; rfl
          have hlr : (xs.drop (k + 1)).length = n - k - 1 := by have := Hn.out; simp; omega
          clear hnb HB
          by_cases h3 : n - k < 3
          · have HB' : Hid (addrB xs = false) := by
              show _ = false
              rw [HB1.out]
              unfold innR
              rw [hlr, decide_eq_false (by omega)]
              rfl
            have h3' : ((n - k : Nat) : Int) < 3 := by omega
            have h0' : ¬ ((n - k : Nat) : Int) = 0 := by omega
            clear HB1 hlr
            go_wp2_with fail
            refine HK.out.mono ?_
            rintro e w1 ⟨rfl, rfl⟩
            go_wp2
            go_ret3
            exact split_no HB'.out _ _
          · obtain ⟨p, rfl⟩ : ∃ p, n = k + (p + 3) := ⟨n - k - 3, by omega⟩
            obtain ⟨d, rfl⟩ : ∃ d, c = k + (d + 3) := ⟨c - k - 3, by omega⟩
            have hqd : p ≤ d := by omega
            have hz := Hcell.out (k + (p + 2)) (by omega)
            rw [← Nat.add_assoc] at hz
            have h3' : ¬ ((p : Int) + 3 < 3) := by omega
            have h0' : ¬ ((p : Int) + 3 = 0) := by omega
            have HR := hide' (innR_at Hn.out)
            clear h3 hlr
            by_cases h93 : xs.getD (k + (p + 2)) 0 = 93
            · rw [h93] at hz
              have HB2 : Hid (addrB xs = innB (inner xs k p)) := by show addrB xs = _; rw [HB1.out, HR.out, decide_eq_true h93]; rfl
              have hy := Hcell.out (k + 1) (by omega)
              rw [← Nat.add_assoc] at hy
              clear HR HB1
              by_cases h34 : xs.getD (k + 1) 0 = 34
              · rw [h34] at hy
                have HB3 : Hid (addrB xs = _) := HB2.out.trans (innB_key Hn.out h34)
                clear HB2
                by_cases hp3 : p < 2
                · have HB' : Hid (addrB xs = false) := by
                    show _ = false
                    rw [HB3.out, decide_eq_false (by omega)]
                    rfl
                  have hp3' : (p : Int) + 1 < 3 := by omega
                  clear HB3
                  go_wp2_with fail
                  refine HK.out.mono ?_
                  rintro e w1 ⟨rfl, rfl⟩
                  go_wp2
                  go_ret3
                  exact split_no HB'.out _ _
                · have hp3' : ¬ (p : Int) + 1 < 3 := by omega
                  have hyl := Hcell.out (k + 1 + p) (by omega)
                  rw [← Nat.add_assoc, ← Nat.add_assoc] at hyl
                  by_cases hl34 : xs.getD (k + 1 + p) 0 = 34
                  · rw [hl34] at hyl
                    have HB4 : Hid (addrB xs = nameB ((xs.drop (k + 2)).take (p - 1))) := by show addrB xs = _; rw [HB3.out, decide_eq_true hl34, decide_eq_true (by omega)]; rfl
                    have hll : ((xs.drop (k + 2)).take (p - 1)).length = p - 1 := by have := Hn.out; simp; omega
                    have HK2 : Hid (Calls Tryz.prog 56 #[.slice (some ⟨b, off + k + 1 + 1, none⟩) (p - 1) (d + 1)] wr fun e w' => e = .returned (.bool (nameB ((xs.drop (k + 2)).take (p - 1)))) ∧ wr = w') := by
                      have := spec_NameOk_any (some ⟨b, off + k + 1 + 1, none⟩) (d + 1) ((xs.drop (k + 2)).take (p - 1)) wr (by have := ha.piece (k + 2) (p - 1) (by have := Hn.out; omega); rw [show off + k + 1 + 1 = off + (k + 2) from by omega]; exact this) (by rw [hll]; unfold maxLen; omega)
                      rw [hll] at this
                      exact this
                    clear HB3
                    generalize nameB ((xs.drop (k + 2)).take (p - 1)) = nb at HB4 HK2
                    cases nb with
                    | false =>
                      go_wp2_with fail
                      refine HK.out.mono ?_
                      rintro e w1 ⟨rfl, rfl⟩
                      go_wp2_with fail
                      refine HK2.out.mono ?_
                      rintro e w1 ⟨rfl, rfl⟩
                      go_wp2
                      go_ret3
                      exact split_no HB4.out _ _
                    | true =>
                      go_wp2_with fail
                      refine HK.out.mono ?_
                      rintro e w1 ⟨rfl, rfl⟩
                      go_wp2_with fail
                      refine HK2.out.mono ?_
                      rintro e w1 ⟨rfl, rfl⟩
                      go_wp2
                      go_ret3
                      exact split_yes HB4.out HC.out _
                  · have HB' : Hid (addrB xs = false) := by
                      show _ = false
                      rw [HB3.out, decide_eq_false hl34, Bool.and_false]
                      rfl
                    generalize xs.getD (k + 1 + p) 0 = z at hyl hl34
                    clear HB3
                    go_wp2_with fail
                    refine HK.out.mono ?_
                    rintro e w1 ⟨rfl, rfl⟩
                    go_wp2
                    go_ret3
                    exact split_no HB'.out _ _
              · have HB3 : Hid (addrB xs = _) := HB2.out.trans (innB_num Hn.out h34)
                clear HB2
                by_cases hp : 2 ≤ p
                · have HB' : Hid (addrB xs = false) := by
                    show _ = false
                    rw [HB3.out, decide_eq_false (by omega)]
                    rfl
                  have hp' : (2 : Int) < (p : Int) + 1 := by omega
                  generalize xs.getD (k + 1) 0 = y0 at hy h34
                  have h34b : (y0 == 34) = false := by simp [h34]
                  clear HB3
                  go_wp2_with fail
                  refine HK.out.mono ?_
                  rintro e w1 ⟨rfl, rfl⟩
                  go_wp2
                  go_ret3
                  exact split_no HB'.out _ _
                have hp' : ¬ (2 : Int) < (p : Int) + 1 := by omega
                by_cases hp1 : p = 1
                · subst hp1
                  simp only [Nat.reduceAdd] at hz hcap hc2 hk hlt hlt' hck ka
                  by_cases h48 : xs.getD (k + 1) 0 = 48
                  · have HB' : Hid (addrB xs = false) := by
                      show _ = false
                      rw [HB3.out, decide_eq_true h48, decide_eq_true (by omega : 1 + 1 = 2)]
                      simp
                    rw [h48] at hy
                    clear HB3
                    go_wp2_with fail
                    refine HK.out.mono ?_
                    rintro e w1 ⟨rfl, rfl⟩
                    go_wp2
                    go_ret3
                    exact split_no HB'.out _ _
                  · have HA : Hid (addrB xs = (inner xs k 1).all digB) := by
                      show addrB xs = _
                      rw [HB3.out]
                      rw [decide_eq_true (by omega : 1 + 1 ≤ 2), decide_eq_true (by omega : 1 + 1 = 2), decide_eq_false h48]
                      rfl
                    have Hc2 : Hid (∀ i, i < 2 → wr.cell? ⟨b, off + k + 1 + i, none⟩ = some (.int .u8 ((inner xs k 1).getD i 0))) := by
                      intro i hi
                      rw [inner_at hi, show off + k + 1 + i = off + (k + 1 + i) from by omega]
                      exact Hcell.out _ (by omega)
                    have Hil : Hid ((inner xs k 1).length = 2) := inner_len Hn.out
                    have Hby : Hid (∀ i, i < 2 → 0 ≤ (inner xs k 1).getD i 0 ∧ (inner xs k 1).getD i 0 ≤ 255) := by
                      intro i hi
                      rw [inner_at hi]
                      exact hby _
                    clear HB3
                    generalize inner xs k 1 = ys at HA Hc2 Hil Hby
                    generalize xs.getD (k + 1) 0 = y0 at hy h34 h48
                    have h34b : (y0 == 34) = false := by simp [h34]
                    have h48b : (y0 == 48) = false := by simp [h48]
                    clear hby Hcell
                    go_wp2_with fail
                    refine HK.out.mono ?_
                    rintro e w1 ⟨rfl, rfl⟩
                    go_wp2
                    go_loopw [9] (fun j wx => ∃ t : Nat, t ≤ 2 ∧ j = .int .i64 t ∧ fstAll digB ys t ∧ wx = wr) (fun j _ => 2 - (intOf j).toNat)
                    case atStart => exact ⟨0, Nat.zero_le _, rfl, fstAll_zero _ _, rfl⟩
                    case round =>
                      obtain ⟨t, ht, rfl, hall, rfl⟩ := hrel
                      by_cases htl : t < 2
                      · have hct := Hc2.out t htl
                        have hbt := Hby.out t htl
                        have htl' : (t : Int) < (2 : Int) := by omega
                        have HS : Hid (digB (ys.getD t 0) = true → fstAll digB ys (t + 1)) := fun h => fstAll_succ hall h
                        have HF : Hid (digB (ys.getD t 0) = false → ys.all digB = false) := fun h => not_all_of (by rw [Hil.out]; omega) h
                        generalize ys.getD t 0 = z at hct hbt HS HF
                        obtain ⟨hz1, hz2⟩ := hbt
                        by_cases hz48 : z < 48
                        · have HB' : Hid (addrB xs = false) := HA.out.trans (HF.out (by simp [digB]; omega))
                          go_wp2
                          go_ret3
                          exact split_no HB'.out _ _
                        · by_cases hz57 : 57 < z
                          · have HB' : Hid (addrB xs = false) := HA.out.trans (HF.out (by simp [digB]; omega))
                            go_wp2
                            go_ret3
                            exact split_no HB'.out _ _
                          · have HT : Hid (fstAll digB ys (t + 1)) := HS.out (by simp [digB]; omega)
                            go_wp2
                            go_roundw
                            case rel => exact ⟨t + 1, by omega, by go_num, HT.out, by first | rfl | trivial⟩
                            case measure => simp [intOf]; omega
                      · have HB' : Hid (addrB xs = true) := HA.out.trans (all_of_fstAll (by rw [Hil.out, ← (by omega : t = 2)]; exact hall))
                        have htl' : ¬ (t : Int) < (2 : Int) := by omega
                        go_wp2
                        go_ret3
                        exact split_yes HB'.out HC.out _
                · have hp1' : ((p : Int) + 1 == 2) = false := by simp; omega
                  have HA : Hid (addrB xs = (inner xs k p).all digB) := by
                    show addrB xs = _
                    rw [HB3.out]
                    rw [decide_eq_true (by omega : p + 1 ≤ 2), decide_eq_false (by omega : ¬ p + 1 = 2)]
                    rfl
                  have Hc2 : Hid (∀ i, i < p + 1 → wr.cell? ⟨b, off + k + 1 + i, none⟩ = some (.int .u8 ((inner xs k p).getD i 0))) := by
                    intro i hi
                    rw [inner_at hi, show off + k + 1 + i = off + (k + 1 + i) from by omega]
                    exact Hcell.out _ (by omega)
                  have Hil : Hid ((inner xs k p).length = p + 1) := inner_len Hn.out
                  have Hby : Hid (∀ i, i < p + 1 → 0 ≤ (inner xs k p).getD i 0 ∧ (inner xs k p).getD i 0 ≤ 255) := by
                    intro i hi
                    rw [inner_at hi]
                    exact hby _
                  clear HB3
                  generalize inner xs k p = ys at HA Hc2 Hil Hby
                  generalize xs.getD (k + 1) 0 = y0 at hy h34
                  have h34b : (y0 == 34) = false := by simp [h34]
                  clear hby Hcell
                  go_wp2_with fail
                  refine HK.out.mono ?_
                  rintro e w1 ⟨rfl, rfl⟩
                  go_wp2
                  go_loopw [9] (fun j wx => ∃ t : Nat, t ≤ p + 1 ∧ j = .int .i64 t ∧ fstAll digB ys t ∧ wx = wr) (fun j _ => p + 1 - (intOf j).toNat)
                  case atStart => exact ⟨0, Nat.zero_le _, rfl, fstAll_zero _ _, rfl⟩
                  case round =>
                    obtain ⟨t, ht, rfl, hall, rfl⟩ := hrel
                    by_cases htl : t < p + 1
                    · have hct := Hc2.out t htl
                      have hbt := Hby.out t htl
                      have htl' : (t : Int) < (p : Int) + 1 := by omega
                      have HS : Hid (digB (ys.getD t 0) = true → fstAll digB ys (t + 1)) := fun h => fstAll_succ hall h
                      have HF : Hid (digB (ys.getD t 0) = false → ys.all digB = false) := fun h => not_all_of (by rw [Hil.out]; omega) h
                      generalize ys.getD t 0 = z at hct hbt HS HF
                      obtain ⟨hz1, hz2⟩ := hbt
                      by_cases hz48 : z < 48
                      · have HB' : Hid (addrB xs = false) := HA.out.trans (HF.out (by simp [digB]; omega))
                        go_wp2
                        go_ret3
                        exact split_no HB'.out _ _
                      · by_cases hz57 : 57 < z
                        · have HB' : Hid (addrB xs = false) := HA.out.trans (HF.out (by simp [digB]; omega))
                          go_wp2
                          go_ret3
                          exact split_no HB'.out _ _
                        · have HT : Hid (fstAll digB ys (t + 1)) := HS.out (by simp [digB]; omega)
                          go_wp2
                          go_roundw
                          case rel => exact ⟨t + 1, by omega, by go_num, HT.out, by first | rfl | trivial⟩
                          case measure => simp [intOf]; omega
                    · have HB' : Hid (addrB xs = true) := HA.out.trans (all_of_fstAll (by rw [Hil.out, ← (by omega : t = p + 1)]; exact hall))
                      have htl' : ¬ (t : Int) < (p : Int) + 1 := by omega
                      go_wp2
                      go_ret3
                      exact split_yes HB'.out HC.out _
            · have HB' : Hid (addrB xs = false) := by
                show _ = false
                rw [HB1.out, HR.out, decide_eq_false h93]
                rfl
              generalize xs.getD (k + (p + 2)) 0 = z at hz h93
              have h93b : (z != 93) = true := by simp [h93]
              clear HR HB1
              go_wp2_with fail
              refine HK.out.mono ?_
              rintro e w1 ⟨rfl, rfl⟩
              go_wp2
              go_ret3
              exact split_no HB'.out _ _
      · have hno' : noBr xs (k + 1) := fun i hi => by
          by_cases e : i = k
          · rw [e]; exact h91
          · exact hno i (by omega)
        have HO := hide' hno'
        generalize xs.getD k 0 = z at hc h91
        clear hno hno'
        go_wp2
        go_roundw
        case rel => exact ⟨k + 1, by omega, by go_num, HO.out, by first | rfl | trivial⟩
        case measure => simp [intOf]; omega
    · obtain rfl : k = n := by omega
      have HC : Hid (cutI xs = xs.length) := cutI_eq (by have := Hn.out; rw [this]; exact hno) (.inl rfl)
      have HC' : Hid (cutI xs = k) := HC.out.trans Hn.out
      have HK := hide' (HN.out k (Nat.le_refl _))
      have ht : xs.take k = xs := by rw [← Hn.out]; simp
      rw [ht] at HK
      have HB : Hid (addrB xs = nameB xs) := by
        show addrB xs = nameB xs
        unfold addrB
        rw [HC'.out, ht]
        simp [Hn.out]
      have hlt' : ¬ (k : Int) < (k : Int) := by omega
      clear hno
      cases hnb : nameB xs with
      | false =>
        rw [hnb] at HK
        have HB' : Hid (addrB xs = false) := HB.out.trans hnb
        clear hnb HB
        go_wp2_with fail
        refine HK.out.mono ?_
        rintro e w1 ⟨rfl, rfl⟩
        go_wp2
        go_ret3
        exact split_no HB'.out _ _
      | true =>
        rw [hnb] at HK
        have HB' : Hid (addrB xs = true) := HB.out.trans hnb
        clear hnb HB
        by_cases hck : c = k
        · subst hck
          go_wp2_with fail
          refine HK.out.mono ?_
          rintro e w1 ⟨rfl, rfl⟩
          go_wp2
          go_ret3
          exact split_yes HB'.out HC'.out _
        · cases a with
          | none => exact absurd (ka rfl) (by omega)
          | some x =>
          go_wp2_with fail
          refine HK.out.mono ?_
          rintro e w1 ⟨rfl, rfl⟩
          go_wp2
          go_ret3
          exact split_yes HB'.out HC'.out _
end Go.Proofs.YtbmgkmnibjdpiaaGreatDoor
/-
  AddrOk and AddrName of the specification.
-/
namespace Go.Proofs.YtbmgkmnibjdpiaaGreatDoor
open Go.RowKit
set_option linter.unusedVariables false

theorem addrN_short (xs : List Int) : (addrN xs).length ≤ 8 := by
  unfold addrN
  split
  · rename_i h
    simp only [addrB, Bool.and_eq_true] at h
    exact (nameB_le h.1).2
  · simp

set_option maxHeartbeats 800000 in
theorem spec_AddrOk_any (a : Option Addr) (c : Nat) (xs : List Int) (w : World) (ha : Seg w a xs) (hcap : xs.length ≤ c) (hc2 : c ≤ maxLen) (ka : a = none → c = 0) :
    Calls Tryz.prog 21 #[.slice a xs.length c] w fun e w' => e = .returned (.bool (addrB xs)) ∧ w = w' := by
  have HS := hide' (l4split_any a c xs w ha hcap hc2 ka)
  go_enter Tryz.func21, Tryz.ntmps21
  go_wp2_with fail
  refine HS.out.mono ?_
  rintro e w1 ⟨rfl, v1, v2, rfl, _⟩
  go_wp2
  go_ret
  exact ⟨rfl, rfl⟩

end Go.Proofs.YtbmgkmnibjdpiaaGreatDoor
