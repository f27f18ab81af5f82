/-
  Texts that a law leans on, one behind the other; no statement is proved here.
-/
import Derived.Test.YtpknhmegoldppaaPk14
import Derived.Test.YtpknhmegoldppaaPk13
import Derived.Test.YtpknhmegoldppaaPk0
import Derived.WalkKit
import Derived.ProofKit
import Derived.ChangeSlices
import Derived.ChangeArms
import Derived.Test.YtpknhmegoldppaaPk6
import Derived.Test.YtpknhmegoldppaaPk10
import Derived.Deep.RegionLaw
/-
  impl.ValSet answers as setA and setF say, whatever it is handed, on its own memory; no statement is proved here.
-/
namespace Go.Proofs.Ytpknhmegoldppaa
open Go.RowKit Go.Shelf
set_option linter.unusedVariables false
set_option linter.unusedSimpArgs false

theorem boxes3 (w : World) (o1 o2 o3 : Obj) : (((w.alloc o1).alloc o2).alloc o3).heap[w.heap.size]? = some o1 ∧ (((w.alloc o1).alloc o2).alloc o3).heap[w.heap.size + 1]? = some o2 ∧ (((w.alloc o1).alloc o2).alloc o3).heap[w.heap.size + 1 + 1]? = some o3 ∧ (((w.alloc o1).alloc o2).alloc o3).heap.size = w.heap.size + 3 ∧ Below w.heap.size w (((w.alloc o1).alloc o2).alloc o3) := by
  have n1 := (MapKept.heap_alloc w o1).1
  have n2 := (MapKept.heap_alloc (w.alloc o1) o2).1
  have n3 := (MapKept.heap_alloc ((w.alloc o1).alloc o2) o3).1
  simp only [World.size_alloc] at n2 n3
  have k2 : ∀ b, b < w.heap.size + 1 → ((w.alloc o1).alloc o2).heap[b]? = (w.alloc o1).heap[b]? := fun b hb => Below.heap_alloc _ _ _ (by simpa using hb)
  have k3 : ∀ b, b < w.heap.size + 2 → (((w.alloc o1).alloc o2).alloc o3).heap[b]? = ((w.alloc o1).alloc o2).heap[b]? := fun b hb => Below.heap_alloc _ _ _ (by simp; omega)
  exact ⟨(k3 _ (by omega)).trans ((k2 _ (by omega)).trans n1), (k3 _ (by omega)).trans n2, n3, by simp, (((Below.refl _ _).alloc (Nat.le_refl _) o1).alloc (by simp) o2).alloc (by simp; omega) o3⟩

/-- The end with nothing. -/
theorem ans_nil {w wz : World} {G d : Nat} {a : Vl (d + 1)} {bb : Bool} (ha : a = vNil d ∧ bb = false) (hB : Below w.heap.size w wz) (hG : w.heap.size ≤ G) : Ans d a bb w (.returned (.tuple #[.agg #[.int .i64 0, .int .i64 0, .slice none 0 0, .slice none 0 0, .slice none 0 0], .bool false])) (set5 wz G 0 (.int .i64 0) (.int .i64 0) (.slice none 0 0) (.slice none 0 0) (.slice none 0 0)) := by
  obtain ⟨rfl, rfl⟩ := ha
  have hB5 := set5_grown wz G 0 (.int .i64 0) (.int .i64 0) (.slice none 0 0) (.slice none 0 0) (.slice none 0 0)
  exact ⟨_, _, _, _, _, rfl, [], own_vNil d _, by simp, hB.grown hB5 hB.size (by intro j hj; simp at hj; omega)⟩

/-- The end with a value. -/
theorem ans_val {w wz : World} {G d : Nat} {a : Vl (d + 1)} {bb b2 : Bool} {v : Vl (d + 1)} (ha : a = v ∧ bb = b2) {B : List Nat} {u0 u1 u2 u3 u4 : Value} (hO : VOwn wz (d + 1) (u0, u1, u2, u3, u4) v B) (hBb : ∀ b ∈ B, w.heap.size ≤ b ∧ b < wz.heap.size ∧ b ≠ G) (hB : Below w.heap.size w wz) (hG : w.heap.size ≤ G) : Ans d a bb w (.returned (.tuple #[.agg #[u0, u1, u2, u3, u4], .bool b2])) (set5 wz G 0 u0 u1 u2 u3 u4) := by
  obtain ⟨rfl, rfl⟩ := ha
  have hB5 := set5_grown wz G 0 u0 u1 u2 u3 u4
  have hsz := set5_size wz G 0 u0 u1 u2 u3 u4
  refine ⟨_, _, _, _, _, rfl, B, VOwn.agree (d + 1) hO fun b hb => hB5.block b (hBb b hb).2.1 (by have := (hBb b hb).2.2; simp; exact this), fun b hb => ?_, hB.grown hB5 hB.size (by intro j hj; simp at hj; omega)⟩
  have := hBb b hb
  exact ⟨this.1, by omega⟩

set_option maxHeartbeats 6400000 in
set_option maxRecDepth 100000 in
theorem impl_ValSet_any (d N : Nat) (c0 c1 c2 c3 c4 e0 e1 e2 e3 e4 : Value) (v : Vl (d + 1)) (x : Vl d) (ka : Option Addr) (kc : Nat) (key : List Int) (w : World) (hv : VSeg (fun b => b < N) w (d + 1) (c0, c1, c2, c3, c4) v) (hx : VSeg (fun b => b < N) w d (e0, e1, e2, e3, e4) x) (hN : N ≤ w.heap.size) (hS : Seg w ka key) (hSb : ∀ x, ka = some x → key ≠ [] → x.block < w.heap.size) (hkl : key.length ≤ 1048576) :
    Calls Try.prog 10 #[.agg #[c0, c1, c2, c3, c4], .slice ka key.length kc, .agg #[e0, e1, e2, e3, e4]] w (Ans d (setA d v key x) (setF d v key x) w) := by
  have HA := hide' (boxes3 w)
  have HP : Hid (∀ o o' o'' : Obj, Calls Try.prog 32 #[.agg #[c0, c1, c2, c3, c4]] (((w.alloc o).alloc o').alloc o'') (MapOf (d + 1) v (((w.alloc o).alloc o').alloc o''))) := fun o o' o'' => mapOf_any (d + 1) N c0 c1 c2 c3 c4 v _ (VSeg.agree (fun b (h : b < N) => (HA.out o o' o'').2.2.2.2.block b (by omega)) (d + 1) hv) (by have := (HA.out o o' o'').2.2.2.1; omega)
  have HX : Hid (∀ wx, Below w.heap.size w wx → Calls Try.prog 33 #[.agg #[e0, e1, e2, e3, e4]] wx (PartEnd d x wx)) := fun wx hb => partOf_any d N e0 e1 e2 e3 e4 x wx (VSeg.agree (fun b (h : b < N) => hb.block b (by omega)) d hx) (by have := hb.size; omega)
  have HSg : Hid (∀ wx, Below w.heap.size w wx → Seg wx ka key) := fun wx hb => hS.below hb hSb
  have HByt : Hid (∀ y ∈ key, Byt y) := hS.1
  have key9 : Hid (Go.keyOf Try.prog 9 (.string (strOf key)) = some (.string (u8s key))) := keyS key (by unfold maxLen; omega)
  obtain ⟨xk, xn, b2, m2, q2, b3, m3, q3, b4, m4, q4, rfl, rfl, rfl, rfl, rfl⟩ := VSeg.form d hx
  clear hv hx hS hSb
  go_enter Try.func10, Try.ntmps10
  go_wp2_with fail
  refine (HP.out _ _ _).mono ?_
  rintro e w1 ⟨b1, hcase⟩
  have h3 := HA.out (.cells #[c0, c1, c2, c3, c4] 30) (.cells #[.int .i64 xk, .int .i64 xn, .slice b2 m2 q2, .slice b3 m3 q3, .slice b4 m4 q4] 30) (.cells #[.int .i64 0, .int .i64 0, .slice none 0 0, .slice none 0 0, .slice none 0 0] 30)
  have hX1 := (b1.block (w.heap.size + 1) (by have := h3.2.2.2.1; omega)).trans h3.2.1
  have hR1 := (b1.block (w.heap.size + 1 + 1) (by have := h3.2.2.2.1; omega)).trans h3.2.2.1
  have hB1 : Below w.heap.size w w1 := h3.2.2.2.2.trans (b1.mono (by have := h3.2.2.2.1; omega))
  have hs1 : w.heap.size + 3 ≤ w1.heap.size := by have h1 := b1.size; have h2 := h3.2.2.2.1; omega
  clear h3 HP
  have HX1 := hide' hX1
  have HR1 := hide' hR1
  have HB1 := hide' hB1
  have HBA : Hid (∀ o, Below w.heap.size w (w1.alloc o)) := fun o => hB1.alloc hB1.size o
  obtain ⟨x0, x1, x2, x3, x4, _⟩ := box_later hX1
  rcases hcase with ⟨b, rfl, hok, hk, hp⟩ | ⟨rfl, hno⟩
  · have HPx := hide' (HX.out _ (HBA.out (.cells #[.map (some b)] 59)))
    have Hok := hide' hok
    have Hk := hide' hk
    have Hp := hide' hp
    have hbR := (mapPart_inv hp hk).1
    have hbz : w.heap.size + 3 ≤ b ∧ b < w1.heap.size := by have h := hbR; simp only [World.size_alloc] at h; omega
    clear hX1 hR1 hB1 b1 hok hk hp hbR HX
    go_wp2_with fail
    refine HPx.out.mono ?_
    rintro e w2 ⟨b2', hcase2⟩
    have hz2 : w1.heap.size + 1 ≤ w2.heap.size := by have h := b2'.size; simpa using h
    have HB2 := hide' (Below.on (HBA.out _) b2')
    have HR2 := hide' ((b2'.block (w.heap.size + 1 + 1) (by simp; omega)).trans ((Below.heap_alloc _ _ _ (by omega)).trans HR1.out))
    have hM2 : w2.heap[w1.heap.size]? = some (.cells #[.map (some b)] 59) := (b2'.block w1.heap.size (by simp)).trans (MapKept.heap_alloc w1 _).1
    have HM2 := hide' hM2
    have HP2 : Hid (PSeg (fun c => c < w1.heap.size) w2 (d + 1) (.iface 59 (.agg #[.map (some b)])) v) := PSeg.carry (fun c h => h.2) (fun c h => (b2'.block c (by simp; omega)).trans (Below.heap_alloc _ _ _ h.2)) (d + 1) Hp.out
    clear HPx x0 x1 x2 x3 x4
    rcases hcase2 with ⟨p, rfl, hokx, hpx⟩ | ⟨rfl, hnox⟩
    · have Hokx := hide' hokx
      have Hpx := hide' hpx
      obtain ⟨pt, py, rfl⟩ := hpx.shape
      obtain ⟨vk, vn, vs, vK, vL⟩ := v
      have hk5 : vk = 5 := Hk.out
      subst hk5
      have hok' := Hok.out
      simp only [okB, Bool.and_eq_true, decide_eq_true_eq] at hok'
      have HV := hide' (valueOf_any (d + 1) w1.heap.size _ _ 1 w2 HP2.out (by omega) hok'.1 hok'.2)
      have cm2 : w2.cell? ⟨w1.heap.size, 0, none⟩ = some (.map (some b)) := by rw [cell_of_row w2 _ 0 _ _ _ hM2]; rfl
      clear hokx hpx hM2 hok' b2'
      go_wp2_with fail
      refine HV.out.mono ?_
      rintro e w3 ⟨u0, u1, u2, u3, u4, rfl, B, hO, hB, hb3⟩
      obtain ⟨uk, un, s2, n2, r2, s3, n3, r3, s4, n4, r4, rfl, rfl, rfl, rfl, rfl⟩ := VOwn.form (d + 1) hO
      have hz3 := hb3.size
      have HB3 := hide' (Below.on HB2.out hb3)
      have HM3 := hide' ((hb3.block w1.heap.size (by omega)).trans HM2.out)
      have HR3 := hide' ((hb3.block (w.heap.size + 1 + 1) (by omega)).trans HR2.out)
      have HP3 : Hid (PSeg (fun c => c < w1.heap.size) w3 (d + 1) (.iface 59 (.agg #[.map (some b)])) (5, vn, vs, vK, vL)) := PSeg.carry (fun c h => h) (fun c h => hb3.block c (by omega)) (d + 1) HP2.out
      have HX3 : Hid (PSeg (fun c => w1.heap.size + 1 ≤ c ∧ c < w2.heap.size) w3 d (.iface pt py) x) := PSeg.carry (fun c h => by simp at h; exact h) (fun c h => hb3.block c h.2) d Hpx.out
      have HO := hide' hO
      have HB := hide' hB
      obtain ⟨_, ps, hm3, _⟩ := mapPart_inv HP3.out rfl
      simp only at hm3
      have HMo : Hid (∀ o, (w3.alloc o).ownsMap Try.prog 9 tokR b 64 (mapD vK ps vL.length)) := fun o => hm3.alloc o
      have cm3 : ∀ o, (w3.alloc o).cell? ⟨w1.heap.size, 0, none⟩ = some (.map (some b)) := fun o => by rw [cell_of_row (w3.alloc o) _ 0 _ _ _ ((Below.heap_alloc w3 o _ (by omega)).trans HM3.out)]; rfl
      have hcv : ∀ o, (convert 22 9 (.slice ka key.length kc)).run Try.prog (w3.alloc o) = .ok (.string (strOf key)) (w3.alloc o) := fun o => conv_seg kc (HSg.out _ (HB3.out.alloc HB3.out.size o))
      clear hO hB hb3 HV hm3 cm2
      generalize hsx : strOf key = sx at *
      generalize hD : mapD vK ps vL.length = D0 at *
      go_upto_region 7 with (at_mapUpdate; refine wpList_mapUpdate_own _ rfl _ _ _ 57 rfl 9 63 (Maps.string_keyed Try.underlying9) Try.underlying57 tokR b 64 D0 rfl (HMo.out _) (by unfold maxLen; omega) (.string sx) (.iface pt py) _ rfl rfl key9.out _ [] rfl ?_; intro w4 hm4 hg4)
      have hz4 : w3.heap.size + 1 ≤ w4.heap.size := by have h := hg4.size; simpa using h
      have HB4 : Hid (Below w.heap.size w w4) := (HB3.out.alloc HB3.out.size _).grown hg4 (HB3.out.alloc HB3.out.size _).size (by intro j hj; simp at hj; omega)
      have HM4 := hide' ((hg4.block w1.heap.size (by simp; omega) (by simp; omega)).trans ((Below.heap_alloc _ _ _ (by omega)).trans HM3.out))
      have HR4 := hide' ((hg4.block (w.heap.size + 1 + 1) (by simp; omega) (by simp; omega)).trans ((Below.heap_alloc _ _ _ (by omega)).trans HR3.out))
      have HW4 := hide' ((hg4.block w3.heap.size (by simp) (by simp; omega)).trans (MapKept.heap_alloc w3 (.cells #[.int .i64 uk, .int .i64 un, .slice s2 n2 r2, .slice s3 n3 r3, .slice s4 n4 r4] 30)).1)
      have HO4 : Hid (VOwn w4 (d + 1) (.int .i64 uk, .int .i64 un, .slice s2 n2 r2, .slice s3 n3 r3, .slice s4 n4 r4) (5, vn, vs, vK, vL) B) := VOwn.agree (d + 1) HO.out fun c hc => (hg4.block c (by have := HB.out c hc; simp; omega) (by have := HB.out c hc; simp; omega)).trans (Below.heap_alloc _ _ _ (HB.out c hc).2)
      have HV4 := hide' (set_value (R := fun c => c < w1.heap.size) (PSeg.carry (fun c h => h) (fun c (h : c < w1.heap.size) => Below.heap_alloc w3 (.cells #[.int .i64 uk, .int .i64 un, .slice s2 n2 r2, .slice s3 n3 r3, .slice s4 n4 r4] 30) c (by omega)) (d + 1) HP3.out) Hok.out hg4 (fun c h => by simp; omega) (HMo.out _) hm4 HByt.out hkl (PSeg.carry (fun c (h : w1.heap.size + 1 ≤ c ∧ c < w2.heap.size) => by omega) (fun c (h : w1.heap.size + 1 ≤ c ∧ c < w2.heap.size) => (hg4.block c (by simp; omega) (by simp; omega)).trans (Below.heap_alloc _ _ _ (by omega))) d HX3.out) Hokx.out)
      have cm4 : w4.cell? ⟨w1.heap.size, 0, none⟩ = some (.map (some b)) := by rw [cell_of_row w4 _ 0 _ _ _ HM4.out]; rfl
      clear hm4 hg4 HMo cm3 hcv HO HP3 HX3
      go_wp2_with fail
      refine HV4.out.mono ?_
      rintro e w5 ⟨uK, uL, rfl, Bk, Bl, hKo, hLo, hBb, hnd, hb5⟩
      have hO5 : VOwn w5 (d + 1) (.int .i64 5, .int .i64 0, .slice none 0 0, uK, uL) (setV d (5, vn, vs, vK, vL) key x) (Bk ++ Bl) := (VOwn_succ _ _ _ _ _).2 ⟨rfl, rfl, [], Bk, Bl, tNil _, hKo, hLo, by simp, hnd⟩
      obtain ⟨_, _, _, _, _, k3, k3n, k3c, k4, k4n, k4c, _, _, _, e5, e6⟩ := VOwn.form (d + 1) hO5
      subst e5
      subst e6
      have hz5 := hb5.size
      have bal : Below w5.heap.size w5 (w5.alloc (.cells #[.int .i64 5, .int .i64 0, .slice none 0 0, .slice k3 k3n k3c, .slice k4 k4n k4c] 30)) := (Below.refl _ _).alloc (Nat.le_refl _) _
      have HIk := hide' (impl_ValOk_any (d + 1) w5.heap.size _ _ _ _ _ _ _ (hO5.below bal) bal.size)
      have b45 := Below.on hb5 bal
      have HB5 := hide' (Below.on HB4.out b45)
      have HR5 := hide' ((b45.block (w.heap.size + 1 + 1) (by omega)).trans HR4.out)
      have HW5 := hide' ((b45.block w3.heap.size (by omega)).trans HW4.out)
      have HO5w := hide' (HO4.out.on b45)
      have HO5 := hide' (hO5.on bal)
      have HBb := hide' hBb
      have HN5 : Hid ((w5.alloc (.cells #[.int .i64 5, .int .i64 0, .slice none 0 0, .slice k3 k3n k3c, .slice k4 k4n k4c] 30)).heap[w5.heap.size]? = some (.cells #[.int .i64 5, .int .i64 0, .slice none 0 0, .slice k3 k3n k3c, .slice k4 k4n k4c] 30)) := (MapKept.heap_alloc w5 _).1
      clear HV4 cm4 hKo hLo hBb hnd hb5 hO5 bal b45
      go_wp2_with fail
      refine HIk.out.mono ?_
      rintro e w6 ⟨rfl, b6⟩
      have hz6 : w5.heap.size + 1 ≤ w6.heap.size := by have h := b6.size; simpa using h
      have HB6 := hide' (Below.on HB5.out b6)
      have HR6 := hide' ((b6.block (w.heap.size + 1 + 1) (by simp; omega)).trans HR5.out)
      have HW6 := hide' ((b6.block w3.heap.size (by simp; omega)).trans HW5.out)
      have HN6 := hide' ((b6.block w5.heap.size (by simp)).trans HN5.out)
      have HO6w := hide' (HO5w.out.on b6)
      have HO6 := hide' (HO5.out.on b6)
      clear HIk b6
      by_cases hfo : okB (d + 1) (setV d (5, vn, vs, vK, vL) key x) = true
      · rw [hfo]
        have HE := hide' (setA_yes (v := (5, vn, vs, vK, vL)) Hok.out rfl Hokx.out hfo)
        clear hfo
        obtain ⟨r0, r1, r2', r3', r4', rf⟩ := row5 HR6.out
        have f0 := rf 0
        have f1 := rf 1
        have f2 := rf 2
        have f3 := rf 3
        have f4 := rf 4
        obtain ⟨v0, v1, v2, v3, v4, _⟩ := row5 HN6.out
        clear rf
        go_wp2_with fail
        have hfin := row5 (set5_heap (j := 0) (.int .i64 5) (.int .i64 0) (.slice none 0 0) (.slice k3 k3n k3c) (.slice k4 k4n k4c) HR6.out)
        simp only [set5, Nat.zero_add] at hfin
        obtain ⟨o0, o1, o2, o3, o4, _⟩ := hfin
        refine bodyPost_ret (v := .tuple #[.agg #[.int .i64 5, .int .i64 0, .slice none 0 0, .slice k3 k3n k3c, .slice k4 k4n k4c], .bool true]) (by simp [results, Try.results10, go_sem, o0, o1, o2, o3, o4]) rfl ?_
        exact ans_val HE.out HO6.out (fun c hc => by have := HBb.out c hc; omega) HB6.out (by omega)
      · have hfo' : okB (d + 1) (setV d (5, vn, vs, vK, vL) key x) = false := by simpa using hfo
        rw [hfo']
        have HE := hide' (setA_back (v := (5, vn, vs, vK, vL)) Hok.out rfl Hokx.out hfo)
        clear hfo hfo'
        obtain ⟨r0, r1, r2', r3', r4', rf⟩ := row5 HR6.out
        have f0 := rf 0
        have f1 := rf 1
        have f2 := rf 2
        have f3 := rf 3
        have f4 := rf 4
        obtain ⟨v0, v1, v2, v3, v4, _⟩ := row5 HW6.out
        clear rf
        go_wp2_with fail
        have hfin := row5 (set5_heap (j := 0) (.int .i64 uk) (.int .i64 un) (.slice s2 n2 r2) (.slice s3 n3 r3) (.slice s4 n4 r4) HR6.out)
        simp only [set5, Nat.zero_add] at hfin
        obtain ⟨o0, o1, o2, o3, o4, _⟩ := hfin
        refine bodyPost_ret (v := .tuple #[.agg #[.int .i64 uk, .int .i64 un, .slice s2 n2 r2, .slice s3 n3 r3, .slice s4 n4 r4], .bool false]) (by simp [results, Try.results10, go_sem, o0, o1, o2, o3, o4]) rfl ?_
        exact ans_val HE.out HO6w.out (fun c hc => by have := HB.out c hc; omega) HB6.out (by omega)
    · have HE := hide' (setA_no (d := d) (v := v) (key := key) (x := x) (fun h => by rw [hnox] at h; simp at h))
      clear hnox hM2 b2'
      obtain ⟨r0, r1, r2', r3', r4', rf⟩ := row5 HR2.out
      have f0 := rf 0
      have f1 := rf 1
      have f2 := rf 2
      have f3 := rf 3
      have f4 := rf 4
      clear rf
      go_wp2_with fail
      have hfin := row5 (set5_heap (j := 0) (.int .i64 0) (.int .i64 0) (.slice none 0 0) (.slice none 0 0) (.slice none 0 0) HR2.out)
      simp only [set5, Nat.zero_add] at hfin
      obtain ⟨o0, o1, o2, o3, o4, _⟩ := hfin
      refine bodyPost_ret (v := .tuple #[.agg #[.int .i64 0, .int .i64 0, .slice none 0 0, .slice none 0 0, .slice none 0 0], .bool false]) (by simp [results, Try.results10, go_sem, o0, o1, o2, o3, o4]) rfl ?_
      exact ans_nil HE.out HB2.out (by omega)
  · have HPx := hide' (HX.out _ (HBA.out (.cells #[.map none] 59)))
    have HE := hide' (setA_no (d := d) (v := v) (key := key) (x := x) (fun h => hno ⟨h.1, h.2.1⟩))
    clear hX1 hR1 hB1 b1 hno HX
    go_wp2_with fail
    refine HPx.out.mono ?_
    rintro e w2 ⟨b2', hcase2⟩
    have hz2 : w1.heap.size + 1 ≤ w2.heap.size := by have h := b2'.size; simpa using h
    have HB2 := hide' (Below.on (HBA.out _) b2')
    have HR2 := hide' ((b2'.block (w.heap.size + 1 + 1) (by simp; omega)).trans ((Below.heap_alloc _ _ _ (by omega)).trans HR1.out))
    have hpf : ∃ p f, e = .returned (.tuple #[p, .bool f]) ∧ (p = .nilIface ∨ ∃ t y, p = .iface t y) := by
      rcases hcase2 with ⟨p, rfl, _, hpx⟩ | ⟨rfl, _⟩
      · obtain ⟨pt, py, rfl⟩ := hpx.shape
        exact ⟨_, _, rfl, .inr ⟨_, _, rfl⟩⟩
      · exact ⟨_, _, rfl, .inl rfl⟩
    obtain ⟨p, f, rfl, hpf⟩ := hpf
    clear HPx x0 x1 x2 x3 x4 hcase2 b2'
    rcases hpf with rfl | ⟨t, y, rfl⟩
    · obtain ⟨r0, r1, r2', r3', r4', rf⟩ := row5 HR2.out
      have f0 := rf 0
      have f1 := rf 1
      have f2 := rf 2
      have f3 := rf 3
      have f4 := rf 4
      clear rf
      go_wp2_with fail
      have hfin := row5 (set5_heap (j := 0) (.int .i64 0) (.int .i64 0) (.slice none 0 0) (.slice none 0 0) (.slice none 0 0) HR2.out)
      simp only [set5, Nat.zero_add] at hfin
      obtain ⟨o0, o1, o2, o3, o4, _⟩ := hfin
      refine bodyPost_ret (v := .tuple #[.agg #[.int .i64 0, .int .i64 0, .slice none 0 0, .slice none 0 0, .slice none 0 0], .bool false]) (by simp [results, Try.results10, go_sem, o0, o1, o2, o3, o4]) rfl ?_
      exact ans_nil HE.out HB2.out (by omega)
    · obtain ⟨r0, r1, r2', r3', r4', rf⟩ := row5 HR2.out
      have f0 := rf 0
      have f1 := rf 1
      have f2 := rf 2
      have f3 := rf 3
      have f4 := rf 4
      clear rf
      go_wp2_with fail
      have hfin := row5 (set5_heap (j := 0) (.int .i64 0) (.int .i64 0) (.slice none 0 0) (.slice none 0 0) (.slice none 0 0) HR2.out)
      simp only [set5, Nat.zero_add] at hfin
      obtain ⟨o0, o1, o2, o3, o4, _⟩ := hfin
      refine bodyPost_ret (v := .tuple #[.agg #[.int .i64 0, .int .i64 0, .slice none 0 0, .slice none 0 0, .slice none 0 0], .bool false]) (by simp [results, Try.results10, go_sem, o0, o1, o2, o3, o4]) rfl ?_
      exact ans_nil HE.out HB2.out (by omega)
end Go.Proofs.Ytpknhmegoldppaa
/-
  A text that came in, as its reading has it, can be read: 'TSeg'.
-/
namespace Go.Proofs.Ytpknhmegoldppaa
open Go.ChangeShapes Go.WideShapes Go.ChangeAt Go.RowKit
set_option linter.unusedVariables false
set_option linter.unusedSimpArgs false
set_option maxRecDepth 100000

theorem cellsT : Try.prog.cellsOf 22 = 1 := by kernel_rfl
theorem cellsI : Try.prog.cellsOf 3 = 1 := by kernel_rfl

theorem list_of {α : Type} {Q : Nat → α → Prop} : ∀ n, (∀ i, i < n → ∃ x, Q i x) → ∃ l : List α, l.length = n ∧ ∀ i (h : i < l.length), Q i l[i]
  | 0, _ => ⟨[], rfl, fun i h => by simp at h⟩
  | n + 1, hq => by
    obtain ⟨l, hl, hi⟩ := list_of n (fun i hi => hq i (by omega))
    obtain ⟨x, hx⟩ := hq n (by omega)
    refine ⟨l ++ [x], by simp [hl], fun i h => ?_⟩
    by_cases e : i < l.length
    · rw [List.getElem_append_left e]; exact hi i e
    · have : i = n := by simp at h; omega
      subst this
      rw [List.getElem_append_right (by omega)]
      simpa using hx

variable {H : Type} {enc : TypeId × Value → H} {w : World}

theorem read_text {fuel : Nat} {cs : List Value} {x : DataW H × List MemPlace} (h : DataW.trod enc Try.prog w 0 (fun _ => true) true fuel 22 cs = some x) : ∃ u xs, cs = [u] ∧ TSeg (fun b => b < w.heap.size) w u xs := by
  rcases open_ints Try.underlying22 Try.underlying5 (by kernel_rfl) h with ⟨rfl, _⟩ | ⟨a, len, cap, zs, rfl, _, hl, hm, hz, _, hcell, hwz⟩
  · exact ⟨_, [], rfl, none, 0, rfl, ⟨by simp, .inl rfl⟩, Nat.le_refl _, Nat.zero_le _, fun _ => rfl, by simp⟩
  · obtain ⟨xs, e, hs, h1, h2, h3⟩ := seg_of_row (w := w) (a := some a) (len := len) (cap := cap) (zs := zs) (.inr ⟨a, rfl, hl, hm, by simpa using hz, hcell, hwz⟩)
    subst e
    exact ⟨_, xs, rfl, some a, cap, rfl, hs, h1, h2, h3, hs.lt⟩

end Go.Proofs.Ytpknhmegoldppaa
/-
  What l2drop is made of: parts of slices, appended one behind the other, and what is read of them; no statement is proved here.
-/
namespace Go.Proofs.Ytpknhmegoldppaa
open Go.RowKit
set_option linter.unusedVariables false
set_option linter.unusedSimpArgs false

theorem row_shape {w : World} {base : Nat} {e : TypeId} {s : Nat} {v : Value} {n : Nat} {xs : List Value} (h : w.ownsRow base e s v n xs) : ∃ a c, v = .slice a n c := by
  rcases h.2 with ⟨rfl, rfl⟩ | ⟨g, cap, cur, rfl, _⟩
  · exact ⟨_, _, rfl⟩
  · exact ⟨_, _, rfl⟩

/-- append of a part of another slice to a row of the call's own, inside a region that draws. -/
theorem step_append_part {ops : Array Oper} {o : Oper} {a : Act} {w : World} {K : Act → World → Prop} {Q : Exit → Act → World → Prop} {E : Prop} (hgd : o.guard = none) (s x : Operand) (t : TypeId)
    (ho : o.op = .call { callee := .builtin .append, args := #[s, x], argTypes := #[t, t] }) (base : Nat) (e : TypeId) (i : TypeInfo) (z : Value) (size bytes : Nat) (ht : Try.prog.underlying t = some (.slice e)) (hi : Try.prog.info? e = some i) (hz : i.zero = some z)
    (hsize : i.size = size) (hby : i.bytes = bytes) (hzs : z.cells.size = size) (hsz : 0 < size) (v : Value) (n : Nat) (xs : List Value) (hs : a.eval s = v) (hown : w.ownsRow base e size v n xs)
    (ad : Addr) (m c : Nat) (news : List Value) (hx : a.eval x = .slice (some ad) m c) (hl : news.length = m * size) (hnews : ∀ j u, news[j]? = some u → w.cell? (ad.add j) = some u) (h1 : ∀ u ∈ news, u.oneCell' = true)
    (h63 : n + m ≤ maxLen) (hbytes : (n + m) * bytes ≤ 140737488355328) (hbase : base ≤ w.heap.size)
    (h : ∀ v' w', w'.ownsRow base e size v' (n + m) (xs ++ news) → w.grownBy w' v.ownBlock → K (a.put o.dst v') w') : if Region.wanted o (yielded ops a.tmps) = true then Oper.wp Try.prog o a w K Q else E := by
  have hw : Region.wanted o (yielded ops a.tmps) = true := by simp [Region.wanted, hgd]
  rw [if_pos hw]
  obtain ⟨v', w', hrun, r1, r2, _⟩ := run_append_own (P := Try.prog) w base t o.type e i z size bytes ht hi hz hsize hby hzs hsz v n xs hown ad m c news hl hnews h1 h63 hbytes hbase
  unfold Oper.wp
  simp [execOp, ho, resolve, invoke, builtin, hs, hx, hrun, Result.andThen]
  exact h v' w' r1 r2

theorem elemK (w : World) : (sizeOf (Try.prog.elem 23)).run Try.prog w = .ok 1 w := by kernel_rfl
theorem elemL (w : World) : (sizeOf (Try.prog.elem 28)).run Try.prog w = .ok 5 w := by kernel_rfl

theorem sliceK_to (w : World) (a : Addr) (len cap n : Nat) (h : n ≤ cap) : (Instr.slice 23 (.slice (some a) len cap) none (some (.int .i64 n)) none).run Try.prog w = .ok (.slice (some a) n cap) w := by
  rw [run_slice_h (P := Try.prog) w 23 (some a) len cap (by kernel_rfl) .i64 n (by omega) (by omega), elemK]
  simp [Result.andThen, sliced, Addr.add]
theorem sliceL_to (w : World) (a : Addr) (len cap n : Nat) (h : n ≤ cap) : (Instr.slice 28 (.slice (some a) len cap) none (some (.int .i64 n)) none).run Try.prog w = .ok (.slice (some a) n cap) w := by
  rw [run_slice_h (P := Try.prog) w 28 (some a) len cap (by kernel_rfl) .i64 n (by omega) (by omega), elemL]
  simp [Result.andThen, sliced, Addr.add]
theorem sliceK_from (w : World) (b off len cap n : Nat) (h : n ≤ len) (hc : len ≤ cap) : (Instr.slice 23 (.slice (some ⟨b, off, none⟩) len cap) (some (.int .i64 n)) none none).run Try.prog w = .ok (.slice (some (if cap = n then ⟨b, off, none⟩ else ⟨b, off + n * 1, none⟩)) (len - n) (cap - n)) w := by
  rw [run_slice_l (P := Try.prog) w 23 _ len cap (by kernel_rfl) .i64 n (by omega) (by omega), elemK]
  simp only [Result.andThen, sliced]
  by_cases h : cap = n
  · simp [h]
  · simp [h, Addr.add_lit]
theorem sliceL_from (w : World) (b off len cap n : Nat) (h : n ≤ len) (hc : len ≤ cap) : (Instr.slice 28 (.slice (some ⟨b, off, none⟩) len cap) (some (.int .i64 n)) none none).run Try.prog w = .ok (.slice (some (if cap = n then ⟨b, off, none⟩ else ⟨b, off + n * 5, none⟩)) (len - n) (cap - n)) w := by
  rw [run_slice_l (P := Try.prog) w 28 _ len cap (by kernel_rfl) .i64 n (by omega) (by omega), elemL]
  simp only [Result.andThen, sliced]
  by_cases h : cap = n
  · simp [h]
  · simp [h, Addr.add_lit]

/-- The cells cs lie from here on. -/
def Lie (w : World) (b off : Nat) (cs : List Value) : Prop := ∀ j u, cs[j]? = some u → w.cell? ⟨b, off + j, none⟩ = some u

theorem Lie.take {w : World} {b off : Nat} {cs : List Value} (h : Lie w b off cs) (n : Nat) : ∀ j u, (cs.take n)[j]? = some u → w.cell? ((⟨b, off, none⟩ : Addr).add j) = some u := by
  intro j u hu
  rw [Addr.add_lit]
  refine h j u ?_
  rw [List.getElem?_take] at hu
  split at hu
  · exact hu
  · simp at hu

theorem Lie.drop {w : World} {b off : Nat} {cs : List Value} (h : Lie w b off cs) (n : Nat) : ∀ j u, (cs.drop n)[j]? = some u → w.cell? ((⟨b, off + n, none⟩ : Addr).add j) = some u := by
  intro j u hu
  rw [Addr.add_lit, Nat.add_assoc]
  rw [List.getElem?_drop] at hu
  exact h (n + j) u hu

theorem Lie.on {w w' : World} {b off : Nat} {cs : List Value} (h : Lie w b off cs) (hb : w'.heap[b]? = w.heap[b]?) : Lie w' b off cs := fun j u hu => (World.cell?_of_block (a := ⟨b, off + j, none⟩) hb).trans (h j u hu)

/-- A slice of texts lies as cells. -/
theorem KSeg.lie {R : Nat → Prop} {w : World} {a : Option Addr} {l p : Nat} {ks : List (List Int)} (h : KSeg R w (.slice a l p) ks) (hne : ks ≠ []) : l = ks.length ∧ ks.length ≤ p ∧ ∃ b off us, a = some ⟨b, off, none⟩ ∧ R b ∧ us.length = ks.length ∧ Lie w b off us ∧ (∀ u ∈ us, u.oneCell' = true) ∧ ∀ i (h : i < us.length), TSeg R w us[i] (ks.getD i []) := by
  obtain ⟨a', cap, e, h1, h2, h3, h4⟩ := h
  simp only [Value.slice.injEq] at e
  obtain ⟨rfl, rfl, rfl⟩ := e
  rcases h4 with h0 | ⟨b, off, ha, hR, hc⟩
  · exact absurd h0 hne
  · obtain ⟨us, hl, hu⟩ := list_of (Q := fun i u => w.cell? ⟨b, off + i, none⟩ = some u ∧ TSeg R w u (ks.getD i [])) ks.length hc
    refine ⟨rfl, h1, b, off, us, ha, hR, hl, fun j u hj => ?_, fun u hu' => ?_, fun i hi => (hu i hi).2⟩
    · obtain ⟨hj', rfl⟩ := List.getElem?_eq_some_iff.1 hj
      exact (hu j hj').1
    · obtain ⟨i, hi, rfl⟩ := List.mem_iff_getElem.1 hu'
      obtain ⟨aa, cc, e, _⟩ := (hu i hi).2
      rw [e]; rfl

/-- .. and what lies as cells in a row of its own is a slice of texts. -/
theorem kseg_of {w : World} {base : Nat} {v : Value} {n : Nat} {us : List Value} {ks : List (List Int)} (h : w.ownsRow base 22 1 v n us) (hn : n = ks.length) (hT : ∀ i (hi : i < us.length), TSeg (fun b => b < w.heap.size) w us[i] (ks.getD i [])) : KSeg (fun b => b < w.heap.size) w v ks := by
  have hul : us.length = n := by have := h.1; omega
  have hcell := fun g hg => h.cells (g := g) hg
  rcases h.2 with ⟨rfl, h0⟩ | ⟨g, cap, cur, rfl, hg, hh, hle, hm, _, _⟩
  · have hk : ks = [] := List.eq_nil_of_length_eq_zero (by omega)
    subst hk
    exact ⟨none, 0, rfl, by simp, by simp, fun _ => rfl, .inl rfl⟩
  · subst hn
    refine ⟨some ⟨g, 0, none⟩, cap, rfl, hle, hm, by simp, .inr ⟨g, 0, rfl, (Array.getElem?_eq_some_iff.1 hh).1, fun i hi => ?_⟩⟩
    have hi' : i < us.length := by omega
    refine ⟨us[i], ?_, hT i hi'⟩
    have := hcell g rfl i us[i] (List.getElem?_eq_getElem hi')
    rw [Addr.add_lit] at this
    exact this
end Go.Proofs.Ytpknhmegoldppaa
/-
  Values that lie as cells, and a part of them; no statement is proved here.
-/
namespace Go.Proofs.Ytpknhmegoldppaa
open Go.RowKit
set_option linter.unusedVariables false
set_option linter.unusedSimpArgs false

abbrev V5 := Value × Value × Value × Value × Value

theorem flat_len : ∀ fs : List V5, ((fs.map enc5).flatten).length = fs.length * 5
  | [] => rfl
  | f :: fs => by have := flat_len fs; simp only [List.map_cons, List.flatten_cons, List.length_append, List.length_cons, this]; simp [enc5]; omega

theorem flat_take : ∀ (fs : List V5) (k : Nat), ((fs.map enc5).flatten).take (k * 5) = ((fs.take k).map enc5).flatten
  | [], k => by simp
  | f :: fs, 0 => by simp
  | f :: fs, k + 1 => by
    have := flat_take fs k
    simp only [List.map_cons, List.flatten_cons, List.take_succ_cons, ← this]
    rw [List.take_append, List.take_of_length_le (by simp [enc5]; omega)]
    congr 2
    simp [enc5]; omega

theorem flat_drop : ∀ (fs : List V5) (k : Nat), ((fs.map enc5).flatten).drop (k * 5) = ((fs.drop k).map enc5).flatten
  | [], k => by simp
  | f :: fs, 0 => by simp
  | f :: fs, k + 1 => by
    have := flat_drop fs k
    simp only [List.map_cons, List.flatten_cons, List.drop_succ_cons, ← this]
    rw [List.drop_append, List.drop_eq_nil_of_le (by simp [enc5]; omega), List.nil_append]
    congr 1
    simp [enc5]; omega

theorem flat_erase (fs : List V5) (k : Nat) : ((fs.map enc5).flatten).take (k * 5) ++ ((fs.map enc5).flatten).drop ((k + 1) * 5) = ((fs.eraseIdx k).map enc5).flatten := by
  rw [flat_take, flat_drop, List.eraseIdx_eq_take_drop_succ, List.map_append, List.flatten_append]

theorem flat5_at (fs : List V5) (i : Nat) (hi : i < fs.length) (r : Nat) (hr : r < 5) : ((fs.map enc5).flatten)[i * 5 + r]? = (enc5 fs[i])[r]? := by
  rw [flatten_at 5 (fs.map enc5) (by intro c hc; simp only [List.mem_map] at hc; obtain ⟨f, _, rfl⟩ := hc; rfl) i (by simpa using hi) r hr]
  simp [List.getD_eq_getElem?_getD, hi]

theorem lie_five {w : World} {b off : Nat} {fs : List V5} (h : ∀ i (hi : i < fs.length), Five w b (off + i * 5) fs[i]) : Lie w b off ((fs.map enc5).flatten) := by
  intro j u hu
  have hj := (List.getElem?_eq_some_iff.1 hu).1
  rw [flat_len] at hj
  have hi : j / 5 < fs.length := by omega
  have hr : j % 5 < 5 := Nat.mod_lt _ (by omega)
  have e : j = j / 5 * 5 + j % 5 := by omega
  rw [e, flat5_at fs (j / 5) hi (j % 5) hr] at hu
  obtain ⟨h0, h1, h2, h3, h4⟩ := h (j / 5) hi
  rw [e, ← Nat.add_assoc]
  generalize j % 5 = r at *
  match r, hr with
  | 0, _ => simp [enc5] at hu; rw [← hu]; exact h0
  | 1, _ => simp [enc5] at hu; rw [← hu]; exact h1
  | 2, _ => simp [enc5] at hu; rw [← hu]; exact h2
  | 3, _ => simp [enc5] at hu; rw [← hu]; exact h3
  | 4, _ => simp [enc5] at hu; rw [← hu]; exact h4

theorem five_lie {w : World} {b off : Nat} {fs : List V5} (h : Lie w b off ((fs.map enc5).flatten)) (i : Nat) (hi : i < fs.length) : Five w b (off + i * 5) fs[i] := by
  have key : ∀ r u, r < 5 → (enc5 fs[i])[r]? = some u → w.cell? ⟨b, off + i * 5 + r, none⟩ = some u := fun r u hr hu => by
    have := h (i * 5 + r) u (by rw [flat5_at fs i hi r hr]; exact hu)
    rw [← Nat.add_assoc] at this
    exact this
  exact ⟨key 0 _ (by omega) rfl, key 1 _ (by omega) rfl, key 2 _ (by omega) rfl, key 3 _ (by omega) rfl, key 4 _ (by omega) rfl⟩

/-- A slice of values lies as cells. -/
theorem LSeg.lie {R : Nat → Prop} {w : World} {d : Nat} {a : Option Addr} {l p : Nat} {vl : List (Vl d)} (h : LSeg R w d (.slice a l p) vl) (hne : vl ≠ []) : l = vl.length ∧ vl.length ≤ p ∧ ∃ b off, ∃ fs : List V5, a = some ⟨b, off, none⟩ ∧ R b ∧ fs.length = vl.length ∧ Lie w b off ((fs.map enc5).flatten) ∧ (∀ u ∈ (fs.map enc5).flatten, u.oneCell' = true) ∧ ∀ i (h : i < fs.length) (h' : i < vl.length), VSeg R w d fs[i] vl[i] := by
  obtain ⟨a', cap, e, h1, h2, h3, h4⟩ := h
  simp only [Value.slice.injEq] at e
  obtain ⟨rfl, rfl, rfl⟩ := e
  rcases h4 with h0 | ⟨b, off, ha, hR, hc⟩
  · exact absurd h0 hne
  · obtain ⟨fs, hl, hu⟩ := list_of (Q := fun i e => Five w b (off + i * 5) e ∧ ∀ h : i < vl.length, VSeg R w d e vl[i]) vl.length (fun i hi => by obtain ⟨e, he, hv⟩ := hc i hi; exact ⟨e, he, fun _ => hv⟩)
    refine ⟨rfl, h1, b, off, fs, ha, hR, hl, lie_five fun i hi => (hu i hi).1, fun u hu' => ?_, fun i hi h' => (hu i hi).2 h'⟩
    simp only [List.mem_flatten, List.mem_map] at hu'
    obtain ⟨_, ⟨f, hf, rfl⟩, hmem⟩ := hu'
    obtain ⟨i, hi, rfl⟩ := List.mem_iff_getElem.1 hf
    have hv := (hu i hi).2 (by omega)
    generalize fs[i] = f at *
    obtain ⟨x0, x1, x2, x3, x4⟩ := f
    obtain ⟨_, _, _, _, _, _, _, _, _, _, _, rfl, rfl, rfl, rfl, rfl⟩ := VSeg.form d hv
    simp only [enc5, List.mem_cons, List.not_mem_nil, or_false] at hmem
    rcases hmem with rfl | rfl | rfl | rfl | rfl <;> rfl

theorem lseg_of {w : World} {base d : Nat} {v : Value} {n : Nat} {fs : List V5} {vl : List (Vl d)} (h : w.ownsRow base 30 5 v n ((fs.map enc5).flatten)) (hn : n = vl.length) (hV : ∀ i (hi : i < fs.length) (h' : i < vl.length), VSeg (fun b => b < w.heap.size) w d fs[i] vl[i]) : LSeg (fun b => b < w.heap.size) w d v vl := by
  have hul : fs.length = n := by have := h.1; rw [flat_len] at this; omega
  have hcell := fun g hg => h.cells (g := g) hg
  rcases h.2 with ⟨rfl, h0⟩ | ⟨g, cap, cur, rfl, hg, hh, hle, hm, _, _⟩
  · have hk : vl = [] := List.eq_nil_of_length_eq_zero (by omega)
    subst hk
    exact ⟨none, 0, rfl, by simp, by simp, fun _ => rfl, .inl rfl⟩
  · subst hn
    refine ⟨some ⟨g, 0, none⟩, cap, rfl, hle, hm, by simp, .inr ⟨g, 0, rfl, (Array.getElem?_eq_some_iff.1 hh).1, fun i hi => ?_⟩⟩
    have hi' : i < fs.length := by omega
    refine ⟨fs[i], five_lie (fun j u hj => ?_) i hi', hV i hi' hi⟩
    have := hcell g rfl j u hj
    rw [Addr.add_lit] at this
    exact this
end Go.Proofs.Ytpknhmegoldppaa
