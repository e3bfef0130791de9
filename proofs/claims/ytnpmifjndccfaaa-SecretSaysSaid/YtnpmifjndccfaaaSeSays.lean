/-
  SecretSays, walked.
-/
import Derived.Test.YtnpmifjndccfaaaSeDeals
import Derived.Test.YtnpmifjndccfaaaConcat
import Derived.Test.YtnpmifjndccfaaaPtMore
import Derived.Deep.CutRange
import Derived.Deep.DeepCutAuto
namespace Go.Proofs.Ytnpmifjndccfaaa
open Go.RowKit
open Eu Pr Po Rs

/-- What Deal hands back, whatever came in. -/
def DealAny (p s : Int) (xs : List Int) (n dE : Int) (w : World) (e : Ending) (w2 : World) : Prop :=
  ∃ (a : Option Addr) (N c : Nat), e = .returned (.tuple #[.slice a N c, .int .i64 dE]) ∧ Hid ((dE ≠ 0 ∧ N = 0) ∨ (dE = 0 ∧ (N : Int) = n ∧ ReadsR w2 a (shr p (s :: xs) N))) ∧ Ex w w2

theorem deal_any (p s : Int) (xs : List Int) (n : Int) (T : Nat) (a : Option Addr) (cap : Nat) (w : World) (hT : xs.length = T) (hl : T ≤ maxLen) (hr : Reads w .i64 a xs) (hnil : a = none → cap = 0) :
    Calls Try.prog 7 #[.int .i64 p, .int .i64 s, .slice a T cap, .int .i64 n] w (DealAny p s xs n (dealE p s xs n) w) := by
  subst hT
  by_cases h : dealE p s xs n = 0
  · obtain ⟨_, _, _, hn, _⟩ := dealE_zero.mp h
    obtain ⟨N, rfl⟩ : ∃ N : Nat, n = (N : Int) := ⟨n.toNat, by omega⟩
    refine (deal_ok p s xs N a cap w hr hnil h).mono ?_
    rintro e w2 ⟨g, rfl, hR, hx⟩
    refine ⟨_, N, N, by rw [h], Lib.hid (.inr ⟨h, rfl, ?_⟩), hx⟩
    obtain ⟨a', c', h2, _, h3, _⟩ := hR.out.reads
    simp only [Value.slice.injEq] at h2
    obtain ⟨rfl, _, rfl⟩ := h2
    exact h3
  · refine (deal_no p s xs n a cap w hl hr h).mono ?_
    rintro e w2 ⟨rfl, hx⟩
    exact ⟨none, 0, 0, rfl, Lib.hid (.inl ⟨h, rfl⟩), hx⟩

theorem join_any (p : Int) (l : List (Int × Int)) (L : Nat) (hL : l.length = L) (hl : L ≤ 140737488355328) : ∃ v : Int, (joinE p l ≠ 0 → v = 0) ∧
    (∀ (w : World) (a : Option Addr) (cap : Nat), L ≤ cap → ReadsR w a l → Calls Try.prog 8 #[.int .i64 p, .slice a L cap] w (Says (.tuple #[.int .i64 v, .int .i64 (joinE p l)]) w)) ∧
    (joinE p l = 0 → ∀ (w : World) (a : Option Addr) (cap : Nat), ReadsR w a l → Calls Try.prog 12 #[.int .i64 p, .slice a L cap, .int .i64 0] w (Says (.int .i64 v) w)) := by
  subst hL
  by_cases h : joinE p l = 0
  · have h0 := (joinE_zero.mp h).1
    obtain ⟨hp, _, _, hP⟩ := ptE_zero.mp h0
    obtain ⟨F, hF⟩ := isTh_some hp hP
    refine ⟨ev F 0 % p, fun h2 => absurd h h2, fun w a cap hc hr => ?_, fun _ w a cap hr => atPoint_any p l F 0 a cap w hr h0 hF⟩
    rw [h]
    exact join_ok p l F a cap w hc hr h hF
  · exact ⟨0, fun _ => rfl, fun w a cap hc hr => join_no p l a cap w hc hl hr h, fun h2 => absurd h2 h⟩

set_option maxHeartbeats 400000 in
theorem says1_any (u v : Int) (w : World) : Calls Try.prog 11 #[.agg #[.int .i64 u, .int .i64 v]] w (Says (.bool (u == 0)) w) := by
  have HX := Lib.hid ((Ex.refl w).alloc (.cells #[.int .i64 u, .int .i64 v] 32))
  go_enter Try.func11, Try.ntmps11
  go_wp2
  go_ret
  exact ⟨rfl, HX.out⟩

theorem entered_says1 : Entered Try.prog 11 := fun _ _ => by kernel_rfl

set_option maxHeartbeats 400000 in
theorem says2_any (p x : Int) (b : Nat) (w : World) (hc : w.cell? ⟨b, 0, none⟩ = some (.int .i64 p)) :
    Calls Try.prog 15 #[.int .i64 x, .pointer (some ⟨b, 0, none⟩)] w (Says (.bool (outB p x)) w) := by
  by_cases h1 : x < 0
  · have HE := Lib.hid (outB_yes (p := p) (.inl h1))
    go_enter Try.func15, Try.ntmps15
    go_wp2
    go_ret
    exact ⟨by rw [HE.out]; rfl, Ex.refl _⟩
  · by_cases h2 : p ≤ x
    · have HE := Lib.hid (outB_yes (.inr h2))
      go_enter Try.func15, Try.ntmps15
      go_wp2
      go_ret
      exact ⟨by rw [HE.out]; simp, Ex.refl _⟩
    · have HE := Lib.hid (outB_no.mpr (by omega : 0 ≤ x ∧ x < p))
      go_enter Try.func15, Try.ntmps15
      go_wp2
      go_ret
      exact ⟨by rw [HE.out]; simp, Ex.refl _⟩

theorem entered_says2 : Entered Try.prog 15 := fun _ _ => by kernel_rfl

theorem any0 (l : List (Int × Int)) (L : Nat) (hL : l.length = L) (hl : L ≤ 140737488355328) (a : Option Addr) (cap : Nat) (w : World) (hr : ReadsR w a l) :
    Calls Try.prog 10 #[.slice a L cap, .func (.func 11) #[] #[]] w (Says (.bool (hasP l 0)) w) := by
  subst hL
  exact points_contains _ _ (fun c => c.1 == 0) l a cap w hl hr entered_says1 fun c _ w2 _ => says1_any c.1 c.2 w2

theorem anyOut (p : Int) (xs : List Int) (T : Nat) (hT : xs.length = T) (hl : T ≤ maxLen) (b : Nat) (w : World) (hc : w.cell? ⟨b, 0, none⟩ = some (.int .i64 p)) (a : Option Addr) (cap : Nat) (hr : Reads w .i64 a xs) :
    Calls Try.prog 14 #[.slice a T cap, .func (.func 15) #[] #[.pointer (some ⟨b, 0, none⟩)]] w (Says (.bool (xs.any (outB p))) w) := by
  subst hT
  exact ints_contains _ _ (outB p) xs a cap w hl hr entered_says2 fun x _ w2 hx => says2_any p x b w2 (hx.cell hc)

theorem concat_one (s : Int) (xs : List Int) (T : Nat) (hT : xs.length = T) (hl : T ≤ 1000) (a : Option Addr) (cap : Nat) (hnil : a = none → cap = 0) (w : World) (hr : Reads w .i64 a xs) :
    Calls Try.prog 17 #[.slice (some ⟨w.heap.size + 1, 0, none⟩) 2 2] ((w.alloc (.cells #[.int .i64 s] 3)).alloc (.cells #[.slice (some ⟨w.heap.size, 0, none⟩) 1 1, .slice a T cap] 22))
      (fun e w2 => ∃ (b : Option Addr) (d : Nat), e = .returned (.slice b (T + 1) d) ∧ Hid (Reads w2 .i64 b (s :: xs)) ∧ Ex w w2) := by
  have h1 := reads_new .i64 [s] #[.int .i64 s] rfl 3 w
  refine (concat_at [s] xs (s :: xs) 1 T (w.heap.size + 1) (some ⟨w.heap.size, 0, none⟩) a 1 cap (w.alloc (.cells #[.int .i64 s] 3)) rfl (by simp) rfl hT (by omega) (by omega) h1 (hr.ex ((Ex.refl w).alloc _)) (fun h => by cases h) hnil).mono ?_
  rintro e w2 ⟨v, rfl, hR, hx⟩
  obtain ⟨b, d, rfl, _, h3, _⟩ := hR.out.reads
  exact ⟨b, d, by rw [List.length_cons, hT], Lib.hid h3, ((Ex.refl w).alloc _).trans hx⟩

theorem samePts (l : List (Int × Int)) (L : Nat) (hL : l.length = L) (hl : L ≤ 1000) (w : World) (a b : Option Addr) (ca cb : Nat) (h1 : ReadsR w a l) (h2 : ReadsR w b l) :
    Calls Try.prog 18 #[.slice a L ca, .slice b L cb] w (Says (.bool true) w) := by
  subst hL
  have HE := Lib.hid (points_equal l a b ca cb w (by omega) h1 h2)
  clear h1 h2
  go_enter Try.func18, Try.ntmps18
  go_wp2_with (go_at_call 38; (with_reducible refine (HE.out).mono ?_); rintro e w2 ⟨rfl, hw2⟩)
  go_ret
  exact ⟨rfl, hw2⟩

/-- A Bool that says whether. -/
theorem bool_of (A : Prop) : ∃ b : Bool, (A → b = true) ∧ (¬ A → b = false) := by
  by_cases h : A
  · exact ⟨true, fun _ => rfl, fun h2 => absurd h h2⟩
  · exact ⟨false, fun h2 => absurd h2 h, fun _ => rfl⟩

set_option maxRecDepth 100000 in
set_option maxHeartbeats 8000000 in
theorem secretSays_walk (p s : Int) (a1 : Option Addr) (l1 c1 : Nat) (xs : List Int) (n : Int) (a2 : Option Addr) (l2 c2 : Nat) (l : List (Int × Int)) (w : World)
    (_ : I64 p) (_ : I64 s) (h1 : IsInts .i64 8 w a1 l1 c1 xs) (_ : I64 n) (h2 : IsPairs w a2 l2 c2 l) :
    Calls Try.prog 3 #[.int .i64 p, .int .i64 s, .slice a1 l1 c1, .int .i64 n, .slice a2 l2 c2] w (Says (.bool true) w) := by
  obtain ⟨e1, le1, lc1, r1, n1, _⟩ := h1
  obtain ⟨e2, le2, lc2, r2, n2, _⟩ := h2
  have HE1 := Lib.hid e1
  have HR1 := Lib.hid r1
  have HR2 := Lib.hid r2
  have HB0 := Lib.hid (Boxed.new w 3 (.int .i64 p))
  have HX0 := Lib.hid ((Ex.refl w).alloc (.cells #[.int .i64 p] 3))
  have HCP : Hid (∀ w2, Ex (w.alloc (.cells #[.int .i64 p] 3)) w2 → w2.cell? ⟨w.heap.size, 0, none⟩ = some (.int .i64 p)) := Lib.hid fun w2 hx => hx.cell HB0.out.cell
  have c0 := HB0.out.cell
  have HD := Lib.hid fun w2 (hx : Ex w w2) => deal_any p s xs n l1 a1 c1 w2 e1 (by unfold maxLen; omega) (r1.ex hx) n1
  obtain ⟨v, hv0, hvJ, hvA⟩ := join_any p l l2 e2 (by omega)
  have HV0 := Lib.hid hv0
  have HVJ := Lib.hid fun w2 (hx : Ex w w2) => hvJ w2 a2 c2 le2 (r2.ex hx)
  have HVA := Lib.hid fun h w2 (hx : Ex w w2) => hvA h w2 a2 c2 (r2.ex hx)
  have HPE : Hid (∀ w2, Ex w w2 → Calls Try.prog 9 #[.int .i64 p, .slice a2 l2 c2] w2 (Says (.int .i64 (ptE p l)) w2)) := Lib.hid fun w2 hx => by
    have := pointsErr_any p l a2 c2 w2 (by omega) (r2.ex hx)
    rw [e2] at this
    exact this
  have HFE := Lib.hid fun w2 => fieldErr_any p w2
  have HA0 := Lib.hid fun w2 (hx : Ex w w2) => any0 l l2 e2 (by omega) a2 c2 w2 (r2.ex hx)
  have HAO := Lib.hid fun w2 (hx : Ex (w.alloc (.cells #[.int .i64 p] 3)) w2) => anyOut p xs l1 e1 (by unfold maxLen; omega) w.heap.size w2 (HCP.out w2 hx) a1 c1 (r1.ex (HX0.out.trans hx))
  have HJ1 : Hid (ptE p l ≠ 0 → joinE p l = ptE p l) := Lib.hid joinE_pts
  have HJ2 : Hid (ptE p l = 0 → l2 = 0 → joinE p l = 9) := Lib.hid fun h h3 => joinE_few h (by omega)
  have HJ3 : Hid (ptE p l = 0 → l2 ≠ 0 → joinE p l = if hasP l 0 = true then 1 else 0) := Lib.hid fun h h3 => joinE_at0 h (by omega)
  have HDZ : Hid (dealE p s xs n = 0 ↔ _) := Lib.hid dealE_zero
  have HD1 : Hid (fieldE p = 1 → dealE p s xs n = 1) := Lib.hid dealE_field
  have HD2 : Hid (fieldE p = 0 → 12 ≤ l1 → dealE p s xs n = 2) := Lib.hid fun h h3 => dealE_large h (by omega)
  have HD3 : Hid (fieldE p = 0 → l1 ≤ 11 → (n < 0 ∨ 12 < n ∨ p ≤ n) → dealE p s xs n = 1) := Lib.hid fun h h3 h4 => dealE_n h (by omega) h4
  have HD4 : Hid (fieldE p = 0 → l1 ≤ 11 → ¬ (n < 0 ∨ 12 < n ∨ p ≤ n) → outB p s = true → dealE p s xs n = 1) := Lib.hid fun h h3 h4 h5 => dealE_s h (by omega) h4 h5
  have HD5 : Hid (fieldE p = 0 → l1 ≤ 11 → ¬ (n < 0 ∨ 12 < n ∨ p ≤ n) → outB p s = false → dealE p s xs n = if xs.any (outB p) = true then 1 else 0) := Lib.hid fun h h3 h4 h5 => dealE_tape h (by omega) h4 h5
  have HFT : Hid (fieldE p = 0 ∨ fieldE p = 1) := Lib.hid (fieldE_two p)
  have HLB : Hid (l1 ≤ 20000000000000) := Lib.hid (by omega)
  obtain ⟨dE, hdE⟩ : ∃ dE, dealE p s xs n = dE := ⟨_, rfl⟩
  obtain ⟨jE, hjE⟩ : ∃ jE, joinE p l = jE := ⟨_, rfl⟩
  obtain ⟨c, hc⟩ : ∃ c, ptE p l = c := ⟨_, rfl⟩
  obtain ⟨fE, hfE⟩ : ∃ fE, fieldE p = fE := ⟨_, rfl⟩
  obtain ⟨hb, hhb⟩ : ∃ hb, hasP l 0 = hb := ⟨_, rfl⟩
  obtain ⟨ab, hab⟩ : ∃ ab, xs.any (outB p) = ab := ⟨_, rfl⟩
  rw [hdE] at HD HDZ HD1 HD2 HD3 HD4 HD5
  rw [hjE] at HV0 HVJ HVA HJ1 HJ2 HJ3
  rw [hc] at HPE HJ1 HJ2 HJ3
  rw [hfE] at HFE HD1 HD2 HD3 HD4 HD5 HFT
  rw [hhb] at HA0 HJ3
  rw [hab] at HAO HD5
  clear hv0 hvJ hvA r1 r2 n2 hdE hjE hc hfE hhb hab e1 e2 HB0
  go_enter Try.func3, Try.ntmps3
  go_upto_region 4 with (first
    | (go_at_call 7; (with_reducible refine (HD.out _ HX0.out).mono ?_); rintro e w1 ⟨am, N, cm, rfl, hD, hw1⟩
       have c1' := HCP.out _ hw1)
    | (go_at_call 8; (with_reducible refine (HVJ.out _ (HX0.out.trans hw1)).mono ?_); rintro e w2 ⟨rfl, hw2⟩
       have c2' := HCP.out _ (hw1.trans hw2))
    | (go_at_call 9; (with_reducible refine (HPE.out _ (HX0.out.trans (hw1.trans hw2))).mono ?_); rintro e w3 ⟨rfl, hw3⟩))
  have HX3 := Lib.hid (hw1.trans (hw2.trans hw3))
  have HM3 : Hid ((dE ≠ 0 ∧ N = 0) ∨ (dE = 0 ∧ (N : Int) = n ∧ ReadsR w3 am (shr p (s :: xs) N))) := Lib.hid (by
    rcases hD.out with h | ⟨h3, h4, h5⟩
    · exact .inl h
    · exact .inr ⟨h3, h4, (h5.ex hw2).ex hw3⟩)
  clear hD hw1 hw2 hw3 c0 c1' c2' HD HVJ HPE
  obtain ⟨b1, hb1, hb1'⟩ := bool_of (c = 0 ∧ l2 = 0)
  have HB1 := Lib.hid hb1
  have HB1' := Lib.hid hb1'
  clear hb1 hb1'
  go_cut [41] (fun v41 wx => v41 = .bool b1 ∧ w3 = wx)
  case first =>
    by_cases h0 : c = 0
    · subst h0
      by_cases hl : l2 = 0
      · have hb := HB1.out ⟨rfl, hl⟩
        subst hl
        go_wp2
        go_meet
        exact ⟨by rw [hb], rfl⟩
      · have hb := HB1'.out (fun h => hl h.2)
        have hne : ((l2 : Int) == 0) = false := by simp; omega
        go_wp2
        go_meet
        exact ⟨by rw [hb], rfl⟩
    · have hb := HB1'.out (fun h => h0 h.1)
      have hne : (c == 0) = false := by simpa using h0
      go_wp2
      go_meet
      exact ⟨by rw [hb], rfl⟩
  case rest =>
  obtain ⟨rfl, rfl⟩ := hcut
  go_upto_if 41 with fail
  obtain ⟨d, hd, hd'⟩ : ∃ d : Int, (b1 = true → d = 9) ∧ (b1 = false → d = c) := by
    cases b1
    · exact ⟨c, fun h => (by cases h), fun _ => rfl⟩
    · exact ⟨9, fun _ => rfl, fun h => by cases h⟩
  have HD9 := Lib.hid hd
  have HDC := Lib.hid hd'
  clear hd hd'
  go_cut [15] (fun v15 wx => v15 = .int .i64 d ∧ w3 = wx)
  case first =>
    cases b1 with
    | true =>
      have hb := HD9.out rfl
      go_wp2
      go_meet
      exact ⟨by rw [hb], rfl⟩
    | false =>
      have hb := HDC.out rfl
      go_wp2
      go_meet
      exact ⟨by rw [hb], rfl⟩
  case rest =>
  obtain ⟨rfl, rfl⟩ := hcut
  have HDD : Hid ((c = 0 → l2 = 0 → d = 9) ∧ (c = 0 → l2 ≠ 0 → d = 0) ∧ (c ≠ 0 → d = c)) := Lib.hid ⟨fun h h2 => HD9.out (HB1.out ⟨h, h2⟩), fun h h2 => by rw [HDC.out (HB1'.out fun h3 => h2 h3.2), h], fun h => HDC.out (HB1'.out fun h3 => h h3.1)⟩
  clear HD9 HDC HB1 HB1'
  obtain ⟨b2, hb2, hb2'⟩ := bool_of (d = 0 ∧ hb = true)
  have HB2 := Lib.hid hb2
  have HB2' := Lib.hid hb2'
  clear hb2 hb2'
  go_upto_region 6 with fail
  go_cut [47] (fun v47 wx => v47 = .bool b2 ∧ Ex w3 wx)
  case first =>
    have HAA := Lib.hid (HA0.out w3 (HX0.out.trans HX3.out))
    by_cases h0 : d = 0
    · subst h0
      cases hb with
      | true =>
        have h := HB2.out ⟨rfl, rfl⟩
        go_wp2_with (go_at_call 10; (with_reducible refine (HAA.out).mono ?_); rintro e w4 ⟨rfl, hw4⟩)
        go_meet
        exact ⟨by rw [h], hw4⟩
      | false =>
        have h := HB2'.out (fun h => by cases h.2)
        go_wp2_with (go_at_call 10; (with_reducible refine (HAA.out).mono ?_); rintro e w4 ⟨rfl, hw4⟩)
        go_meet
        exact ⟨by rw [h], hw4⟩
    · have h := HB2'.out (fun h => h0 h.1)
      have hne : (d == 0) = false := by simpa using h0
      go_wp2
      go_meet
      exact ⟨by rw [h], Ex.refl _⟩
  case rest =>
  obtain ⟨rfl, hx4⟩ := hcut
  rename World => w4
  have HX4 := Lib.hid (HX3.out.trans hx4)
  have HM4 : Hid ((dE ≠ 0 ∧ N = 0) ∨ (dE = 0 ∧ (N : Int) = n ∧ ReadsR w4 am (shr p (s :: xs) N))) := Lib.hid (by
    rcases HM3.out with h | ⟨h3, h4, h5⟩
    · exact .inl h
    · exact .inr ⟨h3, h4, h5.ex hx4⟩)
  have HJE : Hid ((b2 = true → jE = 1) ∧ (b2 = false → jE = d)) := Lib.hid (by
    obtain ⟨k1, k2, k3⟩ := HDD.out
    by_cases h0 : c = 0
    · by_cases hl : l2 = 0
      · have h9 := k1 h0 hl
        have hj := HJ2.out h0 hl
        have hb2 := HB2'.out (fun h => by omega)
        exact ⟨fun h => (by rw [hb2] at h; cases h), fun _ => by omega⟩
      · have h9 := k2 h0 hl
        have hj := HJ3.out h0 hl
        cases hb with
        | true =>
          have hb2 := HB2.out ⟨h9, rfl⟩
          exact ⟨fun _ => hj, fun h => by rw [hb2] at h; cases h⟩
        | false =>
          have hb2 := HB2'.out (fun h => by cases h.2)
          exact ⟨fun h => (by rw [hb2] at h; cases h), fun _ => by rw [hj, h9]; rfl⟩
    · have h9 := k3 h0
      have hj := HJ1.out h0
      have hb2 := HB2'.out (fun h => by omega)
      exact ⟨fun h => (by rw [hb2] at h; cases h), fun _ => by omega⟩)
  clear HM3 HX3 hx4 HDD HB2 HB2' HJ1 HJ2 HJ3 HA0
  go_upto_if 47 with fail
  go_cut [15] (fun v15 wx => v15 = .int .i64 jE ∧ w4 = wx)
  case first =>
    cases b2 with
    | true =>
      have h := Lib.hid (HJE.out.1 rfl)
      go_wp2
      go_meet
      exact ⟨by rw [h.out], rfl⟩
    | false =>
      have h := Lib.hid (HJE.out.2 rfl)
      go_wp2
      go_meet
      exact ⟨by rw [h.out], rfl⟩
  case rest =>
  obtain ⟨rfl, rfl⟩ := hcut
  clear HJE
  go_upto_region 8 with fail
  go_cut [69] (fun v69 wx => v69 = .bool false ∧ Ex w4 wx)
  case first =>
    have cb := HCP.out _ HX4.out
    by_cases h0 : jE = 0
    · have HVV := Lib.hid (HVA.out h0 w4 (HX0.out.trans HX4.out))
      subst h0
      go_wp2_with (go_at_call 12; (with_reducible refine (HVV.out).mono ?_); rintro e w5 ⟨rfl, hw5⟩)
      go_meet
      exact ⟨by simp, hw5⟩
    · have hv := HV0.out h0
      have hne : (jE == 0) = false := by simpa using h0
      have hne2 : (jE != 0) = true := by simpa using h0
      subst hv
      go_wp2
      go_meet
      exact ⟨by simp, Ex.refl _⟩
  case rest =>
  obtain ⟨rfl, hx5⟩ := hcut
  rename World => w5
  have HX5 := Lib.hid (HX4.out.trans hx5)
  have HM5 : Hid ((dE ≠ 0 ∧ N = 0) ∨ (dE = 0 ∧ (N : Int) = n ∧ ReadsR w5 am (shr p (s :: xs) N))) := Lib.hid (by
    rcases HM4.out with h | ⟨h3, h4, h5⟩
    · exact .inl h
    · exact .inr ⟨h3, h4, h5.ex hx5⟩)
  have cb := HCP.out _ HX5.out
  clear HM4 HX4 hx5 HV0 HVA
  go_upto_region 11 with (go_at_call 13; (with_reducible refine (HFE.out _).mono ?_); rintro e w6 ⟨rfl, hw6⟩)
  have hx6 := HX5.out.trans hw6
  have HX6 := Lib.hid hx6
  have HM6 : Hid ((dE ≠ 0 ∧ N = 0) ∨ (dE = 0 ∧ (N : Int) = n ∧ ReadsR w6 am (shr p (s :: xs) N))) := Lib.hid (by
    rcases HM5.out with h | ⟨h3, h4, h5⟩
    · exact .inl h
    · exact .inr ⟨h3, h4, h5.ex hw6⟩)
  have hlb := HLB.out
  clear HM5 HX5 hw6 hx6 cb HFE
  obtain ⟨b3, hb3, hb3'⟩ := bool_of (fE = 0 ∧ 11 < l1)
  have HB3 := Lib.hid hb3
  have HB3' := Lib.hid hb3'
  clear hb3 hb3'
  go_cut [78] (fun v78 wx => v78 = .bool b3 ∧ w6 = wx)
  case first =>
    by_cases h0 : fE = 0
    · subst h0
      by_cases hl : 11 < l1
      · have h := HB3.out ⟨rfl, hl⟩
        have hg : decide ((11 : Int) < (l1 : Int)) = true := decide_eq_true (by omega)
        go_wp2
        go_meet
        exact ⟨by rw [h], rfl⟩
      · have h := HB3'.out (fun h => hl h.2)
        have hg : decide ((11 : Int) < (l1 : Int)) = false := decide_eq_false (by omega)
        go_wp2
        go_meet
        exact ⟨by rw [h], rfl⟩
    · have h := HB3'.out (fun h => h0 h.1)
      have hne : (fE == 0) = false := by simpa using h0
      go_wp2
      go_meet
      exact ⟨by rw [h], rfl⟩
  case rest =>
  obtain ⟨rfl, rfl⟩ := hcut
  go_upto_if 78 with fail
  obtain ⟨d2, hd, hd'⟩ : ∃ d : Int, (b3 = true → d = 2) ∧ (b3 = false → d = fE) := by
    cases b3
    · exact ⟨fE, fun h => (by cases h), fun _ => rfl⟩
    · exact ⟨2, fun _ => rfl, fun h => by cases h⟩
  have HD9 := Lib.hid hd
  have HDC := Lib.hid hd'
  clear hd hd'
  go_cut [15] (fun v15 wx => v15 = .int .i64 d2 ∧ w6 = wx)
  case first =>
    cases b3 with
    | true =>
      have hb := Lib.hid (HD9.out rfl)
      go_wp2
      go_meet
      exact ⟨by rw [hb.out], rfl⟩
    | false =>
      have hb := Lib.hid (HDC.out rfl)
      go_wp2
      go_meet
      exact ⟨by rw [hb.out], rfl⟩
  case rest =>
  obtain ⟨rfl, rfl⟩ := hcut
  have HDD : Hid ((fE = 1 → d2 = 1) ∧ (fE = 0 → 12 ≤ l1 → d2 = 2) ∧ (fE = 0 → l1 ≤ 11 → d2 = 0)) := Lib.hid ⟨fun h => by rw [HDC.out (HB3'.out fun h3 => by omega), h], fun h h2 => HD9.out (HB3.out ⟨h, by omega⟩), fun h h2 => by rw [HDC.out (HB3'.out fun h3 => by omega), h]⟩
  clear HD9 HDC HB3 HB3'
  obtain ⟨b4, hb4, hb4'⟩ := bool_of (d2 = 0 ∧ (n < 0 ∨ 12 < n ∨ p ≤ n ∨ outB p s = true ∨ ab = true))
  have HB4 := Lib.hid hb4
  have HB4' := Lib.hid hb4'
  clear hb4 hb4'
  go_upto_region 13 with fail
  go_cut [107] (fun v107 wx => v107 = .bool b4 ∧ Ex w6 wx)
  case first =>
    have cb := HCP.out _ HX6.out
    have HAA := Lib.hid (HAO.out w6 HX6.out)
    by_cases h0 : d2 = 0
    · subst h0
      by_cases g1 : n < 0
      · have h := HB4.out ⟨rfl, .inl g1⟩
        go_wp2
        go_meet
        exact ⟨by rw [h], Ex.refl _⟩
      by_cases g2 : 12 < n
      · have h := HB4.out ⟨rfl, .inr (.inl g2)⟩
        go_wp2
        go_meet
        exact ⟨by rw [h], Ex.refl _⟩
      by_cases g3 : p ≤ n
      · have h := HB4.out ⟨rfl, .inr (.inr (.inl g3))⟩
        go_wp2
        go_meet
        exact ⟨by rw [h], Ex.refl _⟩
      by_cases g4 : s < 0
      · have h := HB4.out ⟨rfl, .inr (.inr (.inr (.inl (outB_yes (.inl g4)))))⟩
        go_wp2
        go_meet
        exact ⟨by rw [h], Ex.refl _⟩
      by_cases g5 : p ≤ s
      · have h := HB4.out ⟨rfl, .inr (.inr (.inr (.inl (outB_yes (.inr g5)))))⟩
        go_wp2
        go_meet
        exact ⟨by rw [h], Ex.refl _⟩
      have hs : outB p s = false := outB_no.mpr ⟨by omega, by omega⟩
      cases ab with
      | true =>
        have h := HB4.out ⟨rfl, .inr (.inr (.inr (.inr rfl)))⟩
        clear hs
        go_wp2_with (go_at_call 14; (with_reducible refine (HAA.out).mono ?_); rintro e w7 ⟨rfl, hw7⟩)
        go_meet
        exact ⟨by rw [h], hw7⟩
      | false =>
        have h := HB4'.out (fun h => by
          rcases h.2 with h | h | h | h | h
          · omega
          · omega
          · omega
          · rw [hs] at h; cases h
          · cases h)
        clear hs
        go_wp2_with (go_at_call 14; (with_reducible refine (HAA.out).mono ?_); rintro e w7 ⟨rfl, hw7⟩)
        go_meet
        exact ⟨by rw [h], hw7⟩
    · have h := HB4'.out (fun h => h0 h.1)
      have hne : (d2 == 0) = false := by simpa using h0
      go_wp2
      go_meet
      exact ⟨by rw [h], Ex.refl _⟩
  case rest =>
  obtain ⟨rfl, hx7⟩ := hcut
  rename World => w7
  have HX7 := Lib.hid (HX6.out.trans hx7)
  have HM7 : Hid ((dE ≠ 0 ∧ N = 0) ∨ (dE = 0 ∧ (N : Int) = n ∧ ReadsR w7 am (shr p (s :: xs) N))) := Lib.hid (by
    rcases HM6.out with h | ⟨h3, h4, h5⟩
    · exact .inl h
    · exact .inr ⟨h3, h4, h5.ex hx7⟩)
  have HDE : Hid ((b4 = true → dE = 1) ∧ (b4 = false → dE = d2)) := Lib.hid (by
    obtain ⟨k1, k2, k3⟩ := HDD.out
    rcases HFT.out with h0 | h0
    · by_cases hl : 12 ≤ l1
      · have h9 := k2 h0 hl
        have hj := HD2.out h0 hl
        have hb4 := HB4'.out (fun h => by omega)
        exact ⟨fun h => (by rw [hb4] at h; cases h), fun _ => by omega⟩
      · have hl2 : l1 ≤ 11 := by omega
        have h9 := k3 h0 hl2
        by_cases hn : n < 0 ∨ 12 < n ∨ p ≤ n
        · have hj := HD3.out h0 hl2 hn
          have hb4 := HB4.out ⟨h9, by rcases hn with h | h | h <;> simp [h]⟩
          exact ⟨fun _ => hj, fun h => by rw [hb4] at h; cases h⟩
        · cases hs : outB p s with
          | true =>
            have hj := HD4.out h0 hl2 hn hs
            have hb4 := HB4.out ⟨h9, .inr (.inr (.inr (.inl hs)))⟩
            exact ⟨fun _ => hj, fun h => by rw [hb4] at h; cases h⟩
          | false =>
            have hj := HD5.out h0 hl2 hn hs
            cases ab with
            | true =>
              have hb4 := HB4.out ⟨h9, .inr (.inr (.inr (.inr rfl)))⟩
              exact ⟨fun _ => hj, fun h => by rw [hb4] at h; cases h⟩
            | false =>
              have hb4 := HB4'.out (fun h => by
                rcases h.2 with h | h | h | h | h
                · omega
                · omega
                · omega
                · rw [hs] at h; cases h
                · cases h)
              exact ⟨fun h => (by rw [hb4] at h; cases h), fun _ => by rw [hj, h9]; rfl⟩
    · have h9 := k1 h0
      have hj := HD1.out h0
      have hb4 := HB4'.out (fun h => by omega)
      exact ⟨fun h => (by rw [hb4] at h; cases h), fun _ => by omega⟩)
  clear HM6 HX6 hx7 HDD HB4 HB4' HD1 HD2 HD3 HD4 HD5 HAO HFT
  go_upto_if 107 with fail
  go_cut [15] (fun v15 wx => v15 = .int .i64 dE ∧ w7 = wx)
  case first =>
    cases b4 with
    | true =>
      have h := Lib.hid (HDE.out.1 rfl)
      go_wp2
      go_meet
      exact ⟨by rw [h.out], rfl⟩
    | false =>
      have h := Lib.hid (HDE.out.2 rfl)
      go_wp2
      go_meet
      exact ⟨by rw [h.out], rfl⟩
  case rest =>
  obtain ⟨rfl, rfl⟩ := hcut
  clear HDE
  rcases HM7.out with ⟨h0, hN⟩ | ⟨h0, hN, hrd⟩
  · have hne : (dE != 0) = true := by simpa using h0
    subst hN
    go_wp2
    go_ret
    exact ⟨by simp, HX0.out.trans HX7.out⟩
  · obtain ⟨hp, p9, hl11, hn, hs, hB⟩ := HDZ.out.mp h0
    have p2 := hp.1
    subst h0
    subst hN
    have hN12 : N ≤ 12 := by omega
    have hT : l1 ≤ 11 := by have := HE1.out; omega
    have HRD := Lib.hid hrd
    have hBf : Bnd p (s :: xs) := fun x hx => by
      rcases List.mem_cons.mp hx with rfl | hx
      · exact hs
      · exact hB x hx
    have HV := Lib.hid fun (x : Int) (w2 : World) (b : Option Addr) (d : Nat) (hrb : Reads w2 .i64 b (s :: xs)) => refValue_any p (s :: xs) x b d w2 p2 p9 hBf (by rw [List.length_cons]; omega) hrb
    rw [show (s :: xs).length = l1 + 1 by rw [List.length_cons, HE1.out]] at HV
    have HCC := Lib.hid fun (w2 : World) (hx : Ex w w2) => concat_one s xs l1 HE1.out (by omega) a1 c1 n1 w2 (HR1.out.ex hx)
    have HSN := Lib.hid fun i => shr_next p (s :: xs) i
    have HSL := Lib.hid fun i => shr_length p (s :: xs) i
    have HS0 : Hid (shr p (s :: xs) 0 = []) := Lib.hid rfl
    have HSM := Lib.hid fun w2 a b ca cb h1 h2 => samePts (shr p (s :: xs) N) N (shr_length _ _ _) (by omega) w2 a b ca cb h1 h2
    have HNIL := Lib.hid n1
    obtain ⟨f, hf⟩ : ∃ f, s :: xs = f := ⟨_, rfl⟩
    rw [hf] at HRD HV HCC HSN HSL HS0 HSM
    clear hrd hp hs hB hBf hf HM7 HDZ n1
    go_wp2
    go_loopg [16, 17] N (fun k v16 v17 x => ∃ (i : Nat) (ad : Option Addr) (cp : Nat), i ≤ N ∧ v16 = .slice ad i cp ∧ v17 = .int .i64 ((i : Int) + 1) ∧ Hid (RowR 32 x w7.heap.size (.slice ad i cp) (shr p f i)) ∧ Hid (k = N - i) ∧ Ex w7 x)
    case atStart => exact ⟨0, none, 0, by omega, rfl, rfl, Lib.hid (by rw [HS0.out]; exact RowR.nil _ _ _), Lib.hid rfl, Ex.refl _⟩
    case round =>
      obtain ⟨i, ad, cp, hi, rfl, rfl, hR, hk, hx⟩ := hrel
      by_cases hlt : i < N
      · have qp : ∀ x : Kp (Ex w7), x.val.cell? ⟨w.heap.size, 0, none⟩ = some (.int .i64 p) := fun x => HCP.out _ (HX7.out.trans x.ok)
        have HCW := Lib.hid fun (w2 : World) (hx2 : Ex wr w2) => HCC.out w2 (HX0.out.trans (HX7.out.trans (hx.trans hx2)))
        have HVi := Lib.hid fun (w2 : World) (b : Option Addr) (d : Nat) hrb => HV.out ((i : Int) + 1) w2 b d hrb
        have HN2 := Lib.hid (HSN.out i)
        have HL1 := HSL.out i
        have HL2 := Lib.hid (HSL.out (i + 1))
        obtain ⟨y, hy⟩ : ∃ y, ev f ((i : Int) + 1) % p = y := ⟨_, rfl⟩
        rw [hy] at HVi HN2
        have HL1 := Lib.hid HL1
        clear hy
        haveI : Nonempty (Kp (Ex w7)) := ⟨⟨w7, Ex.refl w7⟩⟩
        go_upto_region 21 with fail
        have hT5 : Ex wr wr.drew := (Ex.refl wr).drew
        refine wp_region_scr (fun w2 => ∃ x : Kp (Ex w7), w2 = x.val) (.take 0 (.take 1 (.take 2 (.take 3 (.take 5 (.take 8 (.one 4 (.one 6 (.one 7 (.one 9 (.take 10 (.one 11 (.one 12 (.take 13 (.fin))))))))))))))) (by kernel_rfl) (by kernel_rfl) (by intro _ _ d _ _ h; cases d <;> exact h) ⟨⟨_, (by first | exact hX8 | exact Ex.trans hx hT7 | exact Ex.trans hx hT6 | exact Ex.trans hx (Ex.alloc hT7 _) | exact Ex.trans hx (Ex.alloc hT5 _) | exact Ex.trans hx (Ex.alloc (Ex.alloc hT5 _) _) | exact Ex.trans hx hT5 | exact hx.drew)⟩, rfl⟩ ?_
        generalize wr.drew = wd at hT5 ⊢
        simp only [fillS, List.getD_cons_zero, List.getD_cons_succ]
        repeat' (first
          | ((with_reducible refine wpScr_pure ?_); go_big_quiet_step (fail); (with_reducible refine scrQ_on ?_))
          | ((with_reducible refine wpScr_turn ?_); intro K hK; go_wp2_with (first | fail |(go_at_call 17; (with_reducible refine (HCW.out _ hT5).mono ?_); rintro e w6 ⟨b6, d6, rfl, hr6, hw6⟩; have hT6 := hT5.trans hw6) | (go_at_call 16; (with_reducible refine (HVi.out _ _ _ hr6.out).mono ?_); rintro e w7' ⟨rfl, hw7⟩; have hT7 := hT6.trans hw7) | (at_builtin; refine wpList_append_pair rfl _ _ 23 rfl w7.heap.size 32 Try.underlying23 info_pt _ (shr p f i) rfl (RowR.ex hR.out (Ex.alloc hT7 _)) ((i : Int) + 1, y) w7'.heap.size rfl (by simp) (by simp) (by rw [HL1.out]; unfold maxLen; omega) (by rw [HL1.out]; omega) (hx.trans (Ex.alloc hT7 _)).size ?_; intro v8 w8 hown8 hgrow8 hat8; have hX8 : Ex w7 w8 := RowR.grown (RowR.ex hR.out (Ex.alloc hT7 _)) (hx.trans (Ex.alloc hT7 _)) hgrow8; rw [HN2.out] at hown8; obtain ⟨a8, c8, rfl, _, _, _⟩ := hown8.reads; rw [HL2.out] at hown8 ⊢)); refine hK _ _ ⟨⟨_, (by first | exact hX8 | exact Ex.trans hx hT7 | exact Ex.trans hx hT6 | exact Ex.trans hx (Ex.alloc hT7 _) | exact Ex.trans hx (Ex.alloc hT5 _) | exact Ex.trans hx (Ex.alloc (Ex.alloc hT5 _) _) | exact Ex.trans hx hT5 | exact hx.drew)⟩, rfl⟩ ?_; clear hK K)
          | (with_reducible refine wpScr_two ?_ ?_)
          | (with_reducible refine wpScr_three ?_ ?_ ?_)
          | (with_reducible refine wpScr_nil ?_))
        go_wp2
        go_roundg (N - (i + 1))
        case measure => have := hk.out; omega
        case rel => exact ⟨i + 1, a8, c8, by omega, rfl, by go_num, Lib.hid hown8, Lib.hid rfl, hX8⟩
      · have e : i = N := by omega
        subst e
        have HRR := Lib.hid (hR.out.read)
        have HMM := Lib.hid (HRD.out.ex hx)
        have hgt : ¬ ((i : Int) + 1 ≤ (i : Int)) := by omega
        go_wp2_with (go_at_call 18; (with_reducible refine (HSM.out _ _ _ _ _ HMM.out HRR.out).mono ?_); rintro e w9 ⟨rfl, hw9⟩)
        go_ret
        exact ⟨rfl, HX0.out.trans (HX7.out.trans (hx.trans hw9))⟩

end Go.Proofs.Ytnpmifjndccfaaa
