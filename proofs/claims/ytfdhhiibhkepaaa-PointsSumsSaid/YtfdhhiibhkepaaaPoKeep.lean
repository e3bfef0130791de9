/-
  wholekeep: polys, fieldOf, polyOf.
-/
import Derived.Test.YtfdhhiibhkepaaaPoProd
import Derived.Test.YtfdhhiibhkepaaaPoMul
import Derived.Test.YtfdhhiibhkepaaaPoDvL
import Derived.Test.YtfdhhiibhkepaaaEqual
namespace Go.Proofs.Ytfdhhiibhkepaaa
open Go.RowKit
open Pr Po

/-- A row that may be read comes back, alone, or with no error. -/
def Slc1 (h : List Int) (N : Nat) (w : World) (e : Ending) (w2 : World) : Prop := ∃ a2 c2, e = .returned (.slice a2 N c2) ∧ Hid (Reads w2 .i64 a2 h) ∧ Hid (a2 = none → c2 = 0) ∧ Ex w w2
def Slc (h : List Int) (N : Nat) (w : World) (e : Ending) (w2 : World) : Prop := ∃ a2 c2, e = .returned (.tuple #[.slice a2 N c2, .int .i64 0]) ∧ Hid (Reads w2 .i64 a2 h) ∧ Hid (a2 = none → c2 = 0) ∧ Ex w w2
def Slc2 (q r : List Int) (N M : Nat) (w : World) (e : Ending) (w2 : World) : Prop := ∃ a2 c2 a3 c3, e = .returned (.tuple #[.slice a2 N c2, .slice a3 M c3, .int .i64 0]) ∧ Hid (Reads w2 .i64 a2 q) ∧ Hid (a2 = none → c2 = 0) ∧ Hid (Reads w2 .i64 a3 r) ∧ Hid (a3 = none → c3 = 0) ∧ Ex w w2

theorem Row1.slc {h : List Int} {N : Nat} {w w2 : World} {e : Ending} (k : Row1 h w e w2) (hN : h.length = N) : Slc1 h N w e w2 := by
  obtain ⟨v, rfl, hrow, hx⟩ := k
  obtain ⟨a2, c2, rfl, _, hr, hn⟩ := hrow.out.reads
  exact ⟨a2, c2, by rw [hN], Lib.hid hr, Lib.hid hn, hx⟩
theorem Rowed.slc {h : List Int} {N : Nat} {w w2 : World} {e : Ending} (k : Rowed h w e w2) (hN : h.length = N) : Slc h N w e w2 := by
  obtain ⟨v, rfl, hrow, hx⟩ := k
  obtain ⟨a2, c2, rfl, _, hr, hn⟩ := hrow.out.reads
  exact ⟨a2, c2, by rw [hN], Lib.hid hr, Lib.hid hn, hx⟩
theorem Rows2.slc {q r : List Int} {N M : Nat} {w w2 : World} {e : Ending} (k : Rows2 q r w e w2) (hN : q.length = N) (hM : r.length = M) : Slc2 q r N M w e w2 := by
  obtain ⟨v, u, rfl, hrow, hrow2, _, hx⟩ := k
  obtain ⟨a2, c2, rfl, _, hr, hn⟩ := hrow.out.reads
  obtain ⟨a3, c3, rfl, _, hr3, hn3⟩ := hrow2.out.reads
  exact ⟨a2, c2, a3, c3, by rw [hN, hM], Lib.hid hr, Lib.hid hn, Lib.hid hr3, Lib.hid hn3, hx⟩

theorem both_can {p : Int} {f g : List Int} (hp : Prm p) (p9 : p ≤ 997) (hf : Po.Can p f) (hg : Po.Can p g) (h1 : f.length ≤ 40) (h2 : g.length ≤ 40) : bothE p f g = 0 := bothE_zero.mpr ⟨hp, p9, h1, hf, h2, hg⟩

theorem mulS {p : Int} {f g h : List Int} {L M N : Nat} (hp : Prm p) (p9 : p ≤ 997) (hf : Po.Can p f) (hg : Po.Can p g) (hL : f.length = L) (hM : g.length = M) (h1 : L ≤ 40) (h2 : M ≤ 40) (hm : L + M ≤ 41) (hh : red p (mul f g) = h) (hN : h.length = N)
    (w : World) (a b : Option Addr) (ca cb : Nat) (hr : Reads w .i64 a f) (hr2 : Reads w .i64 b g) : Calls Try.prog 28 #[.int .i64 p, .slice a L ca, .slice b M cb] w (Slc h N w) := by
  subst hL
  subst hM
  subst hh
  exact (mul_ok p f g a b ca cb w hr hr2 (both_can hp p9 hf hg h1 h2) (.inr (.inr hm))).mono fun e w2 k => Rowed.slc k hN

theorem addS {p : Int} {f g h : List Int} {L M N : Nat} (hp : Prm p) (p9 : p ≤ 997) (hf : Po.Can p f) (hg : Po.Can p g) (hL : f.length = L) (hM : g.length = M) (h1 : L ≤ 40) (h2 : M ≤ 40) (hh : red p (add f g) = h) (hN : h.length = N)
    (w : World) (a b : Option Addr) (ca cb : Nat) (hr : Reads w .i64 a f) (hr2 : Reads w .i64 b g) : Calls Try.prog 21 #[.int .i64 p, .slice a L ca, .slice b M cb] w (Slc h N w) := by
  subst hL
  subst hM
  subst hh
  exact (add_ok p f g a b ca cb w hr hr2 (both_can hp p9 hf hg h1 h2)).mono fun e w2 k => Rowed.slc k hN


theorem eqS {f : List Int} {L : Nat} (hL : f.length = L) (hl : L ≤ 1000) (w : World) (a b : Option Addr) (ca cb : Nat) (h1 : Reads w .i64 a f) (h2 : Reads w .i64 b f) :
    Calls Try.prog 20 #[.slice a L ca, .slice b L cb] w (Says (.bool true) w) := by
  subst hL
  exact ints_equal f f a b ca cb w (by unfold maxLen; omega) (by unfold maxLen; omega) h1 h2 true (by simp)

theorem red_lit : red 5 (mul [1, 2] [3, 1]) = [3, 2, 2] := by decide

theorem mul_lit (w : World) : Calls Try.prog 28 #[.int .i64 5, .slice (some ⟨w.heap.size, 0, none⟩) 2 2, .slice (some ⟨w.heap.size + 1, 0, none⟩) 2 2] ((w.alloc (.cells #[.int .i64 1, .int .i64 2] 3)).alloc (.cells #[.int .i64 3, .int .i64 1] 3))
    (Slc [3, 2, 2] 3 ((w.alloc (.cells #[.int .i64 1, .int .i64 2] 3)).alloc (.cells #[.int .i64 3, .int .i64 1] 3))) := by
  have h1 := (reads_new .i64 [1, 2] #[.int .i64 1, .int .i64 2] rfl 3 w).ex ((Ex.refl _).alloc (.cells #[.int .i64 3, .int .i64 1] 3))
  have h2 := reads_new .i64 [3, 1] #[.int .i64 3, .int .i64 1] rfl 3 (w.alloc (.cells #[.int .i64 1, .int .i64 2] 3))
  rw [World.size_alloc] at h2
  exact mulS (p := 5) (f := [1, 2]) (g := [3, 1]) ((pb_iff 5).mp (by decide)) (by omega) ⟨by decide, by decide⟩ ⟨by decide, by decide⟩ rfl rfl (by decide) (by decide) (by decide) red_lit rfl _ _ _ _ _ h1 h2

set_option maxRecDepth 100000 in
set_option maxHeartbeats 1000000 in
theorem polys_yes (w : World) : Calls Try.prog 15 #[] w (Says (.bool true) w) := by
  have HM := Lib.hid mul_lit
  have HN := Lib.hid fun w2 => next_ok 90 97 w2 (by omega) next_97 (by omega)
  have HE3 : Hid (∀ (w : World) (a b : Option Addr) (ca cb : Nat), Reads w .i64 a [3, 2, 2] → Reads w .i64 b [3, 2, 2] → Calls Try.prog 20 #[.slice a 3 ca, .slice b 3 cb] w (Says (.bool true) w)) := Lib.hid (eqS rfl (by omega))
  go_enter Try.func15, Try.ntmps15
  go_wp2_with (first
    | (go_at_call 28; (with_reducible refine (HM.out _).mono ?_); rintro e w1 ⟨b1, d1, rfl, hr1, hn1, hw1⟩
       have hx1 : Ex w w1 := ((Ex.refl w).alloc _).alloc _ |>.trans hw1)
    | (go_at_call 38; (with_reducible refine (HN.out _).mono ?_); rintro e w2 ⟨rfl, hw2⟩
       have hx2 := hx1.trans hw2
       have HR1 := Lib.hid ((hr1.out.ex hw2).ex ((Ex.refl w2).alloc (.cells #[.int .i64 3, .int .i64 2, .int .i64 2] 3)))
       have HR2 : Hid (Reads (w2.alloc (.cells #[.int .i64 3, .int .i64 2, .int .i64 2] 3)) .i64 (some ⟨w2.heap.size, 0, none⟩) [3, 2, 2]) := Lib.hid (reads_new .i64 [3, 2, 2] _ rfl _ _)
       have hx3 := hx2.alloc (.cells #[.int .i64 3, .int .i64 2, .int .i64 2] 3)
       clear hr1 hw1 hw2 hx1 hx2)
    | (go_at_call 20; (with_reducible refine (HE3.out _ _ _ _ _ HR1.out HR2.out).mono ?_); rintro e w4 ⟨rfl, hw4⟩))
  go_ret
  exact ⟨rfl, (by repeat (first | assumption | exact Ex.refl _ | refine Ex.trans ?_ (by assumption)))⟩

set_option maxRecDepth 100000 in
set_option maxHeartbeats 1000000 in
theorem fieldOf_some (n : Int) : ∃ P, Prm P ∧ P ≤ 997 ∧ ∀ w, Calls Try.prog 16 #[.int .i64 n] w (Says (.int .i64 P) w) := by
  have h997 : Prm 997 := (pb_iff 997).mp (by decide +kernel)
  have m0 := Int.emod_nonneg n (b := 998) (by omega)
  have m1 := Int.emod_lt_of_pos n (b := 998) (by omega)
  obtain ⟨P, hP, hP9⟩ := next_some (n := n % 998) _ 997 rfl (by omega) h997
  refine ⟨P, hP.2.1, hP9, fun w => ?_⟩
  obtain ⟨hle, hpr, hno⟩ := hP
  have HW := Lib.hid fun w2 => within_any n 998 w2 (by omega) (by omega)
  have HP := Lib.hid fun m (h : m ≤ 1000000) w2 => refPrime_ok m w2 h
  have HY := Lib.hid ((pb_iff P).mpr hpr)
  have HN := Lib.hid fun k h1 h2 => pb_no (hno k h1 h2)
  have p2 := hpr.1
  obtain ⟨s, hs⟩ : ∃ s, n % 998 = s := ⟨_, rfl⟩
  rw [hs] at m0 m1 hle HW HN
  clear hno hs hpr
  go_enter Try.func16, Try.ntmps16
  go_wp2_with (go_at_call 19; (with_reducible refine (HW.out _).mono ?_); rintro e w2 ⟨rfl, rfl⟩)
  go_loopg [3] (P - s).toNat (fun k v3 wr => ∃ t : Int, s ≤ t ∧ t ≤ P ∧ v3 = .int .i64 t ∧ Hid (k = (P - t).toNat) ∧ Ex w wr)
  case atStart => exact ⟨s, by omega, hle, rfl, Lib.hid rfl, Ex.refl _⟩
  case round =>
    obtain ⟨t, t0, t1, rfl, hk, hx⟩ := hrel
    have HPt := Lib.hid (HP.out t (by omega))
    by_cases hlt : t < P
    · have hb := HN.out t t0 hlt
      rw [hb] at HPt
      go_wp2_with (go_at_call 39; (with_reducible refine (HPt.out _).mono ?_); rintro e w2 ⟨rfl, hw2⟩)
      go_roundg (P - (t + 1)).toNat
      case measure => have := hk.out; omega
      case rel => exact ⟨t + 1, by omega, by omega, by go_num, Lib.hid rfl, hx.trans hw2⟩
    · have e : t = P := by omega
      subst e
      rw [HY.out] at HPt
      go_wp2_with (go_at_call 39; (with_reducible refine (HPt.out _).mono ?_); rintro e w2 ⟨rfl, hw2⟩)
      go_ret
      exact ⟨rfl, hx.trans hw2⟩

theorem mods_step {xs : List Int} {p : Int} {i : Nat} (h : i < xs.length) : (xs.take i).map (· % p) ++ [nth xs i % p] = (xs.take (i + 1)).map (· % p) := by
  rw [nth_eq h, ← List.take_append_getElem h, List.map_append]
  rfl

theorem mods_length (xs : List Int) (p : Int) (i : Nat) (h : i ≤ xs.length) : ((xs.take i).map (· % p)).length = i := by
  rw [List.length_map, List.length_take]; omega

set_option maxRecDepth 100000 in
set_option maxHeartbeats 2000000 in
theorem polyOf_any (p : Int) (xs : List Int) (a : Option Addr) (L cap most : Nat) (w : World) (p1 : 1 ≤ p) (p9 : p ≤ 997) (hL : xs.length = L) (hl : L ≤ 9223372036854775807) (hLc : L ≤ cap) (hm : most ≤ 40) (hr : Reads w .i64 a xs) :
    Calls Try.prog 17 #[.int .i64 p, .slice a L cap, .int .i64 most] w (Row1 (red p (xs.take most)) w) := by
  obtain ⟨K, hK⟩ : ∃ K, min L most = K := ⟨_, rfl⟩
  have eT : xs.take most = xs.take K := by
    by_cases h : most ≤ L
    · rw [show K = most by omega]
    · rw [show K = L by omega, ← hL, List.take_length, List.take_of_length_le (by omega)]
  rw [eT]
  have HRX := Lib.hid fun w2 (hx : Ex w w2) => hr.ex hx
  have HSH : Hid (∀ (w2 : World) (ad : Option Addr) (cp : Nat), Row 3 .i64 w2 w.heap.size (.slice ad K cp) ((xs.take K).map (· % p)) → Calls Try.prog 40 #[.slice ad K cp] w2 (Row1 (red p (xs.take K)) w2)) := Lib.hid fun w2 ad cp hrow => by
    have hlen := mods_length xs p K (by omega)
    have hcp : K ≤ cp ∧ cp ≤ 9223372036854775807 ∧ (ad = none → cp = 0) := by
      rcases hrow.form with ⟨f1, f2⟩ | ⟨bo, cp2, f1, _, _, fc1, fc2, _, _⟩
      · simp only [Value.slice.injEq] at f1
        exact ⟨by omega, by omega, fun _ => f1.2.2⟩
      · simp only [Value.slice.injEq] at f1
        unfold maxLen at fc2
        exact ⟨by omega, by omega, fun h => by rw [f1.1] at h; cases h⟩
    have := refShort_any ((xs.take K).map (· % p)) ad cp w2 (by omega) hrow.read hcp.2.2 (by omega) hcp.2.1
    rw [hlen] at this
    exact this
  have HWI : Hid (∀ (x e : Int) (w2 : World), e = p → Calls Try.prog 19 #[.int .i64 x, .int .i64 e] w2 (fun e w' => e = .returned (.int .i64 (x % p)) ∧ w2 = w')) := Lib.hid fun x e w2 he => by
    subst he
    exact within_any x e w2 (by omega) (by omega)
  have HST := Lib.hid fun i (h : i < xs.length) => mods_step (p := p) h
  have HLEN := Lib.hid fun i (h : i ≤ xs.length) => mods_length xs p i h
  have hif : (if (most : Int) < (L : Int) then (most : Int) else (L : Int)) = (K : Int) := by split <;> omega
  have hif2 : (if most < L then (most : Int) else (L : Int)) = (K : Int) := by split <;> omega
  have hmx : (if (1 : Int) < p then p else 1) = p := by split <;> omega
  have HL := Lib.hid hL
  have k1 : K ≤ L := by omega
  have k2 : K ≤ 40 := by omega
  have H0 : Hid ((xs.take 0).map (· % p) = []) := Lib.hid (by simp)
  clear hr hL hK eT
  go_enter Try.func17, Try.ntmps17
  go_wp2
  go_loopg [7, 17] K (fun k v7 v17 x => ∃ (i : Nat) (ad : Option Addr) (cp : Nat), i ≤ K ∧ v7 = .slice ad i cp ∧ v17 = .int .i64 i ∧ Hid (Row 3 .i64 x w.heap.size (.slice ad i cp) ((xs.take i).map (· % p))) ∧ Hid (k = K - i) ∧ Ex w x)
  case atStart => exact ⟨0, none, 0, by omega, rfl, rfl, Lib.hid (by rw [H0.out]; exact Row.nil _ _ _ _), Lib.hid rfl, Ex.refl _⟩
  case round =>
    obtain ⟨i, ad, cp, hi, rfl, rfl, hR, hk, hx⟩ := hrel
    by_cases hlt : i < K
    · rcases (HRX.out _ hx) with hn | ⟨bf, of_, rfl, hc⟩
      · have := HL.out; rw [hn] at this; simp at this; omega
      have hci := hc i (by have := HL.out; omega)
      have HST2 := Lib.hid (HST.out i (by have := HL.out; omega))
      obtain ⟨X, hX⟩ : ∃ X, nth xs i = X := ⟨_, rfl⟩
      rw [hX] at hci HST2
      have c1 := cell_fresh wr (.int .i64 (X % p)) 3
      have HX := Lib.hid (hx.alloc (.cells #[.int .i64 (X % p)] 3))
      have HRA := Lib.hid (hR.out.ex ((Ex.refl wr).alloc (.cells #[.int .i64 (X % p)] 3)))
      have hle := HLEN.out i (by have := HL.out; omega)
      have HLE := Lib.hid hle
      clear hc hX hle
      go_wp2_with (first
        | (go_at_call 19; (with_reducible refine (HWI.out _ _ _ (by first | omega | (split <;> omega))).mono ?_); rintro e w' ⟨rfl, rfl⟩)
        | (at_builtin; refine wpList_append_int rfl _ _ 23 rfl w.heap.size 3 .i64 8 Try.underlying23 info_int _ ((xs.take i).map (· % p)) rfl HRA.out (X % p) wr.heap.size rfl c1 (by rw [HLE.out]; unfold maxLen; omega) (by rw [HLE.out]; omega) HX.out.size ?_; intro v1 w3 hown3 hgrow3 hat3
           have HX3 := Lib.hid (HRA.out.grown HX.out hgrow3)
           rw [HST2.out] at hown3
           obtain ⟨ad3, cp3, rfl, _, _, _⟩ := hown3.reads
           rw [HLEN.out (i + 1) (by have := HL.out; omega)] at hown3 ⊢
           have HR3 := Lib.hid hown3
           clear hown3 hgrow3 hat3 c1))
      go_roundg (K - (i + 1))
      case measure => have := hk.out; omega
      case rel => exact ⟨i + 1, ad3, cp3, by omega, rfl, by go_num, HR3, Lib.hid rfl, HX3.out⟩
    · have e : i = K := by omega
      subst e
      have HT := Lib.hid (HSH.out wr ad cp hR.out)
      go_wp2_with (go_at_call 40; (with_reducible refine (HT.out).mono ?_); rintro e w5 ⟨u, rfl, hu, hw5⟩)
      go_ret
      exact ⟨_, rfl, Lib.hid (hu.out.less hx.size), hx.trans hw5⟩

end Go.Proofs.Ytfdhhiibhkepaaa
