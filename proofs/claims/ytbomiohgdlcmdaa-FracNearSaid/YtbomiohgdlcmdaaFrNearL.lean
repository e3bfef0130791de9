/-
  FracNear, walked.
-/
import Derived.Test.YtbomiohgdlcmdaaFrSides
import Derived.Test.YtbomiohgdlcmdaaFrRef
import Derived.Test.YtbomiohgdlcmdaaFrRefF
namespace Go.Proofs.Ytbomiohgdlcmdaa
open Go.RowKit
open Eu Fr

/-- Near, whatever came in. -/
theorem near_any (P Q m : Int) : ∃ a b c d er : Int, (∀ w, Calls Try.prog 12 #[.agg #[.int .i64 P, .int .i64 Q], .int .i64 m] w (Says (.tuple #[.agg #[.int .i64 a, .int .i64 b], .agg #[.int .i64 c, .int .i64 d], .int .i64 er]) w)) ∧
    ((¬ (1 ≤ m ∧ m ≤ 1000000 ∧ OkFr P Q) ∧ er = 1 ∧ a = 0 ∧ b = 0 ∧ c = 0 ∧ d = 0) ∨ ((1 ≤ m ∧ m ≤ 1000000 ∧ OkFr P Q) ∧ er = 0 ∧ IsLow P Q m a b ∧ IsHigh P Q m c d)) := by
  by_cases h : 1 ≤ m ∧ m ≤ 1000000 ∧ OkFr P Q
  · obtain ⟨a, b, c, d, hl, hh, _⟩ := near_some h.2.2 h.1 h.2.1
    exact ⟨a, b, c, d, 0, near_at h.2.2 h.1 h.2.1 hl hh, .inr ⟨h, rfl, hl, hh⟩⟩
  · exact ⟨0, 0, 0, 0, 1, near_none P Q m h, .inl ⟨h, rfl, rfl, rfl, rfl, rfl⟩⟩

theorem nearOf_at {P Q m a b c d : Int} (h : OkFr P Q) (m1 : 1 ≤ m) (m2 : m ≤ 1000000) (hl : IsLow P Q m a b) (hh : IsHigh P Q m c d) (w : World) :
    Calls Try.prog 16 #[.agg #[.int .i64 P, .int .i64 Q], .int .i64 m] w (Says (.tuple #[.agg #[.int .i64 a, .int .i64 b], .agg #[.int .i64 c, .int .i64 d]]) w) := by
  refine (nearOf_ok P Q m w h m1 m2).mono ?_
  rintro e w2 ⟨a2, b2, c2, d2, hl2, hh2, rfl, hx⟩
  obtain ⟨rfl, rfl⟩ := hl.uniq hl2
  obtain ⟨rfl, rfl⟩ := hh.uniq hh2
  exact ⟨rfl, hx⟩

/-- Farey, whatever came in. -/
def FareyAny (n : Int) (w : World) (e : Ending) (w2 : World) : Prop :=
  ∃ a k c er, e = .returned (.tuple #[.slice a k c, .int .i64 er]) ∧ Hid (((n < 1 ∨ 30 < n) ∧ er = 1 ∧ k = 0) ∨ (1 ≤ n ∧ n ≤ 30 ∧ er = 0 ∧ k = (zz (FLn n.toNat)).length ∧ ReadsR w2 a (zz (FLn n.toNat)))) ∧ Ex w w2

theorem farey_any (n : Int) (w : World) : Calls Try.prog 13 #[.int .i64 n] w (FareyAny n w) := by
  by_cases h : n < 1 ∨ 30 < n
  · refine (farey_no n w h).mono ?_
    rintro e w2 ⟨rfl, hx⟩
    exact ⟨none, 0, 0, 1, rfl, Lib.hid (.inl ⟨h, rfl, rfl⟩), hx⟩
  · have hf := farey_ok n.toNat w (by omega) (by omega)
    rw [show ((n.toNat : Nat) : Int) = n by omega] at hf
    refine hf.mono ?_
    rintro e w2 ⟨v, rfl, hR, hx⟩
    obtain ⟨a, c, rfl, _, hr, _⟩ := hR.out.reads
    exact ⟨a, _, c, 0, rfl, Lib.hid (.inr ⟨by omega, by omega, rfl, rfl, hr⟩), hx⟩

set_option maxRecDepth 100000 in
set_option maxHeartbeats 8000000 in
theorem fracNear_walk (P Q m n : Int) (w : World) (_ : I64 P ∧ I64 Q) (_ : I64 m) (_ : I64 n) : Calls Try.prog 4 #[.agg #[.int .i64 P, .int .i64 Q], .int .i64 m, .int .i64 n] w (Says (.bool true) w) := by
  obtain ⟨a, b, c, d, er, hnear, hres⟩ := near_any P Q m
  have H1 := Lib.hid hnear
  have HR := Lib.hid hres
  have H2 := Lib.hid fun w => farey_any n w
  have HX := Lib.hid ((Ex.refl w).alloc (.cells #[.int .i64 P, .int .i64 Q] 23))
  have HA : Hid (Two 23 (w.alloc (.cells #[.int .i64 P, .int .i64 Q] 23)) w.heap.size P Q) := Lib.hid (Two.at rfl)
  clear hnear hres
  have ca0 := HA.out.c0
  have ca1 := HA.out.c1
  go_enter Try.func4, Try.ntmps4
  go_upto_region 3 with (first
    | (go_at_call 12; (with_reducible refine (H1.out _).mono ?_); rintro e w1 ⟨rfl, hw1⟩)
    | (go_at_call 13; (with_reducible refine (H2.out _).mono ?_); rintro e w2 ⟨fa, fk, fc, fe, rfl, hfar, hw2⟩))
  clear ca0 ca1
  have HX2 := Lib.hid ((((HX.out.trans hw1).alloc (.cells #[.int .i64 a, .int .i64 b] 23)).alloc (.cells #[.int .i64 c, .int .i64 d] 23)).trans hw2)
  have HA2 := Lib.hid ((((HA.out.ex hw1).ex ((Ex.refl _).alloc (.cells #[.int .i64 a, .int .i64 b] 23))).ex ((Ex.refl _).alloc (.cells #[.int .i64 c, .int .i64 d] 23))).ex hw2)
  have HL2 : Hid (Two 23 w2 w1.heap.size a b) := Lib.hid (((Two.at rfl).ex ((Ex.refl _).alloc _)).ex hw2)
  have HH2 : Hid (Two 23 w2 (w1.heap.size + 1) c d) := Lib.hid ((Two.at (by simp)).ex hw2)
  obtain ⟨bad, hbad⟩ : ∃ b : Bool, (b = true ∧ (n < 1 ∨ 30 < n)) ∨ (b = false ∧ 1 ≤ n ∧ n ≤ 30) := by
    by_cases h : n < 1 ∨ 30 < n
    · exact ⟨true, .inl ⟨rfl, h⟩⟩
    · exact ⟨false, .inr ⟨rfl, by omega, by omega⟩⟩
  have HBT : Hid (n < 1 ∨ 30 < n → bad = true) := Lib.hid fun h => by
    rcases hbad with h2 | h2
    · exact h2.1
    · omega
  have HBF : Hid (1 ≤ n → n ≤ 30 → bad = false) := Lib.hid fun h k => by
    rcases hbad with h2 | h2
    · omega
    · exact h2.1
  clear hbad
  go_cut [31] (fun v31 wx => v31 = .bool bad ∧ w2 = wx)
  case first =>
    by_cases c1 : n < 1
    · have hb : bad = true := HBT.out (.inl c1)
      go_wp2
      go_meet
      exact ⟨by rw [hb], rfl⟩
    by_cases c2 : 30 < n
    · have hb : bad = true := HBT.out (.inr c2)
      go_wp2
      go_meet
      exact ⟨by rw [hb], rfl⟩
    have hb : bad = false := HBF.out (by omega) (by omega)
    go_wp2
    go_meet
    exact ⟨by rw [hb], rfl⟩
  case rest =>
    obtain ⟨rfl, rfl⟩ := hcut
    go_upto_if 31 with fail
    go_cut [32] (fun v32 wx => Ex w2 wx)
    case first =>
      rcases hfar.out with ⟨h1, h2, h3⟩ | ⟨h1, h2, h3, h4, h5⟩
      · have hb : bad = true := HBT.out h1
        subst h2 h3 hb
        go_wp2
        go_meet
        exact Ex.refl _
      · have hb : bad = false := HBF.out h1 h2
        have HFO : Hid (∀ w, Calls Try.prog 15 #[.int .i64 n] w (fun e w2 => ∃ v, e = .returned v ∧ Hid (RowR 23 w2 w.heap.size v (zz (FLn n.toNat))) ∧ Ex w w2)) := Lib.hid fun w => by
          have := fareyOf_ok n.toNat w (by omega) (by omega)
          rwa [show ((n.toNat : Nat) : Int) = n by omega] at this
        have hlen : (zz (FLn n.toNat)).length ≤ 1000 := by
          rw [zz_length]
          have := (FLn_facts (n := n.toNat) (by omega) (by omega)).2.2.2.1.length_eq
          have := prs_len n.toNat (by omega)
          omega
        have HEQ : Hid (∀ (w : World) (a b : Option Addr) (ca cb : Nat), ReadsR w a (zz (FLn n.toNat)) → ReadsR w b (zz (FLn n.toNat)) → Calls Try.prog 14 #[.slice a fk ca, .slice b fk cb] w (Says (.bool true) w)) := Lib.hid fun w a b ca cb ha hb => by
          rw [h4]
          exact fracs_equal (zz (FLn n.toNat)) a b ca cb w (by omega) ha hb
        have HFK := Lib.hid h4
        have HFR := Lib.hid h5
        subst h3 hb
        clear h4 h5 hlen
        go_wp2_with (first
          | (go_at_call 15; (with_reducible refine (HFO.out _).mono ?_); rintro e w4 ⟨v, rfl, hv, hw4⟩
             obtain ⟨ra, rc, rfl, _, hrr, _⟩ := hv.out.reads
             rw [← HFK.out]
             have HRR := Lib.hid hrr
             clear hrr)
          | (go_at_call 14; (with_reducible refine (HEQ.out _ _ _ _ _ (HFR.out.ex hw4) HRR.out).mono ?_); rintro e w5 ⟨rfl, hw5⟩))
        go_meet
        exact hw4.trans hw5
    case rest =>
      rename World => w6
      have HA6 := Lib.hid (HA2.out.ex hcut)
      have HL6 := Lib.hid (HL2.out.ex hcut)
      have HH6 := Lib.hid (HH2.out.ex hcut)
      have HX6 := Lib.hid (HX2.out.trans hcut)
      have ca0 := HA6.out.c0
      have ca1 := HA6.out.c1
      have caf0 := HA6.out.free 0
      have caf1 := HA6.out.free 1
      have cl0 := HL6.out.c0
      have cl1 := HL6.out.c1
      have clf0 := HL6.out.free 0
      have clf1 := HL6.out.free 1
      have ch0 := HH6.out.c0
      have ch1 := HH6.out.c1
      have chf0 := HH6.out.free 0
      have chf1 := HH6.out.free 1
      rcases HR.out with ⟨hno, rfl, rfl, rfl, rfl, rfl⟩ | ⟨hyes, rfl, hl, hh⟩
      · by_cases c1 : Q < 1
        · clear hno
          go_wp2
          go_ret
          exact ⟨by first | rfl | (simp; done) | (simp; omega), HX6.out⟩
        by_cases c2 : 1000000 < Q
        · clear hno
          go_wp2
          go_ret
          exact ⟨by first | rfl | (simp; done) | (simp; omega), HX6.out⟩
        by_cases c3 : P < 0
        · clear hno
          go_wp2
          go_ret
          exact ⟨by first | rfl | (simp; done) | (simp; omega), HX6.out⟩
        by_cases c4 : 1000000 < P
        · clear hno
          go_wp2
          go_ret
          exact ⟨by first | rfl | (simp; done) | (simp; omega), HX6.out⟩
        by_cases c5 : m < 1
        · clear hno
          go_wp2
          go_ret
          exact ⟨by first | rfl | (simp; done) | (simp; omega), HX6.out⟩
        have c6 : 1000000 < m := by
          refine Decidable.byContradiction fun h => hno ⟨by omega, by omega, by omega, by omega, by omega, by omega⟩
        clear hno
        go_wp2
        go_ret
        exact ⟨by first | rfl | (simp; done) | (simp; omega), HX6.out⟩
      · have HNO := Lib.hid fun w => nearOf_at hyes.2.2 hyes.1 hyes.2.1 hl hh w
        obtain ⟨m1, m2, q1, q2, p1, p2⟩ := hyes
        clear hl hh
        go_wp2_with (
          (go_at_call 16; (with_reducible refine (HNO.out _).mono ?_); rintro e w7 ⟨rfl, hw7⟩
           have HL7 := Lib.hid (((HL6.out.ex hw7).ex ((Ex.refl _).alloc (.cells #[.int .i64 a, .int .i64 b] 23))).ex ((Ex.refl _).alloc (.cells #[.int .i64 c, .int .i64 d] 23)))
           have HH7 := Lib.hid (((HH6.out.ex hw7).ex ((Ex.refl _).alloc (.cells #[.int .i64 a, .int .i64 b] 23))).ex ((Ex.refl _).alloc (.cells #[.int .i64 c, .int .i64 d] 23)))
           clear ca0 ca1 caf0 caf1 cl0 cl1 clf0 clf1 ch0 ch1 chf0 chf1
           have cl0 := HL7.out.c0
           have cl1 := HL7.out.c1
           have clf0 := HL7.out.free 0
           have clf1 := HL7.out.free 1
           have ch0 := HH7.out.c0
           have ch1 := HH7.out.c1
           have chf0 := HH7.out.free 0
           have chf1 := HH7.out.free 1
           ))
        go_ret
        exact ⟨by first | rfl | (simp; done) | (simp; omega), ((HX6.out.trans hw7).alloc _).alloc _⟩

end Go.Proofs.Ytbomiohgdlcmdaa
