/-
  FracSays, walked.
-/
import Derived.Test.YtbomiohgdlcmdaaFrBackW
import Derived.Test.YtbomiohgdlcmdaaOpen
import Derived.Deep.CutRange
import Derived.Deep.DeepCutAuto
namespace Go.Proofs.Ytbomiohgdlcmdaa
open Go.RowKit
open Eu Fr

/-- What Of hands back, whatever came in. -/
def OfAny (p q : Int) (w : World) (e : Ending) (w2 : World) : Prop :=
  ∃ a n cap er, e = .returned (.tuple #[.slice a n cap, .int .i64 er]) ∧ n ≤ 1000000 ∧ Hid ((¬ OkFr p q ∧ er = 1 ∧ n = 0) ∨ (OkFr p q ∧ er = 0 ∧ n = (cf p q).length ∧ Reads w2 .i64 a (cf p q))) ∧ Ex w w2

theorem of_any (p q : Int) (w : World) : Calls Try.prog 9 #[.agg #[.int .i64 p, .int .i64 q]] w (OfAny p q w) := by
  by_cases h : OkFr p q
  · refine (of_ok p q w h).mono ?_
    rintro e w2 ⟨v, rfl, hR, hx⟩
    obtain ⟨a, cap, rfl, _, hr, _⟩ := hR.out.reads
    have := cf_len q.toNat p q rfl
    have := h.2.1
    exact ⟨a, _, cap, 0, rfl, by omega, Lib.hid (.inr ⟨h, rfl, rfl, hr⟩), hx⟩
  · refine (of_no p q w h).mono ?_
    rintro e w2 ⟨rfl, hx⟩
    exact ⟨none, 0, 0, 1, rfl, by omega, Lib.hid (.inl ⟨h, rfl, rfl⟩), hx⟩

/-- What Value hands back, whatever came in. -/
theorem value_any (l : List Int) : ∃ y1 y2 f r : Int, Chk l r ∧ ((r ≠ 0 ∧ f = r ∧ y1 = 0 ∧ y2 = 0) ∨ (r = 0 ∧ vr l = none ∧ f = 2 ∧ y1 = 0 ∧ y2 = 0) ∨ (r = 0 ∧ vr l = some (y1, y2) ∧ f = 0)) ∧
    ∀ (w : World) (a : Option Addr) (cap : Nat), l.length ≤ maxLen → Reads w .i64 a l → Calls Try.prog 10 #[.slice a l.length cap] w (Says (.tuple #[.agg #[.int .i64 y1, .int .i64 y2], .int .i64 f]) w) := by
  obtain ⟨r, hc, hr⟩ := chk_some l
  by_cases h0 : r = 0
  · subst h0
    have hc2 : l ≠ [] ∧ OkT l := by
      rcases hc with h | h | h
      · omega
      · exact ⟨h.1, h.2.1⟩
      · omega
    cases hv : vr l with
    | none => exact ⟨0, 0, 2, 0, hc, .inr (.inl ⟨rfl, rfl, rfl, rfl, rfl⟩), fun w a cap hl hr => by have := value_ok l a cap w hl hr hc2.1 hc2.2; rw [hv] at this; exact this⟩
    | some x => exact ⟨x.1, x.2, 0, 0, hc, .inr (.inr ⟨rfl, rfl, rfl⟩), fun w a cap hl hr => by have := value_ok l a cap w hl hr hc2.1 hc2.2; rw [hv] at this; exact this⟩
  · exact ⟨0, 0, r, r, hc, .inl ⟨h0, rfl, rfl, rfl⟩, fun w a cap hl hr => value_no l a cap w hl hr r hc h0⟩

set_option maxRecDepth 100000 in
set_option maxHeartbeats 8000000 in
theorem fracSays_walk (P Q : Int) (a : Option Addr) (len cap : Nat) (l : List Int) (w : World) (_ : I64 P ∧ I64 Q) (hz : IsInts .i64 8 w a len cap l) :
    Calls Try.prog 3 #[.agg #[.int .i64 P, .int .i64 Q], .slice a len cap] w (Says (.bool true) w) := by
  obtain ⟨rfl, hlc, hcb, hrd, _, _⟩ := hz
  have hll : l.length ≤ 20000000000000 := by omega
  have HRD := Lib.hid hrd
  obtain ⟨y1, y2, f, r, hchk, hres, hval⟩ := value_any l
  have HC := Lib.hid hchk
  have HR := Lib.hid hres
  have H1 := Lib.hid fun w => of_any P Q w
  have H2 : Hid (∀ (w : World) (a : Option Addr) (cap : Nat), Reads w .i64 a l → Calls Try.prog 10 #[.slice a l.length cap] w (Says (.tuple #[.agg #[.int .i64 y1, .int .i64 y2], .int .i64 f]) w)) := Lib.hid fun w a cap hr => hval w a cap (by unfold maxLen; omega) hr
  have HX := Lib.hid ((Ex.refl w).alloc (.cells #[.int .i64 P, .int .i64 Q] 23))
  have HA : Hid (Two 23 (w.alloc (.cells #[.int .i64 P, .int .i64 Q] 23)) w.heap.size P Q) := Lib.hid (Two.at rfl)
  clear hrd hchk hres hval hlc hcb
  go_enter Try.func3, Try.ntmps3
  go_upto_region 3 with (first
    | (go_at_call 9; (with_reducible refine (H1.out _).mono ?_); rintro e w1 ⟨ma, mn, mc, er, rfl, hmn, hof, hw1⟩
       have HX1 := Lib.hid (HX.out.trans hw1)
       have HA1 := Lib.hid (HA.out.ex hw1)
       have HRD1 := Lib.hid (HRD.out.ex HX1.out))
    | (go_at_call 10; (with_reducible refine (H2.out _ _ _ HRD1.out).mono ?_); rintro e w2 ⟨rfl, hw2⟩))
  have HX3 := Lib.hid ((HX1.out.trans hw2).alloc (.cells #[.int .i64 y1, .int .i64 y2] 23))
  have HA3 := Lib.hid ((HA1.out.ex hw2).ex ((Ex.refl _).alloc (.cells #[.int .i64 y1, .int .i64 y2] 23)))
  have HY3 : Hid (Two 23 (w2.alloc (.cells #[.int .i64 y1, .int .i64 y2] 23)) w2.heap.size y1 y2) := Lib.hid (Two.at rfl)
  have HOF : Hid ((¬ OkFr P Q ∧ er = 1 ∧ mn = 0) ∨ (OkFr P Q ∧ er = 0 ∧ mn = (cf P Q).length ∧ Reads (w2.alloc (.cells #[.int .i64 y1, .int .i64 y2] 23)) .i64 ma (cf P Q))) := Lib.hid (by
    rcases hof.out with h | ⟨h1, h2, h3, h4⟩
    · exact .inl h
    · exact .inr ⟨h1, h2, h3, (h4.ex hw2).ex ((Ex.refl _).alloc _)⟩)
  have HRD3 := Lib.hid (HRD.out.ex HX3.out)
  generalize w2.alloc (.cells #[.int .i64 y1, .int .i64 y2] 23) = w3 at *
  obtain ⟨bad, hbad⟩ : ∃ b : Bool, (b = true ∧ ¬ OkFr P Q) ∨ (b = false ∧ OkFr P Q) := by
    by_cases h : OkFr P Q
    · exact ⟨false, .inr ⟨rfl, h⟩⟩
    · exact ⟨true, .inl ⟨rfl, h⟩⟩
  have HBT : Hid (¬ OkFr P Q → bad = true) := Lib.hid fun h => by
    rcases hbad with h2 | h2
    · exact h2.1
    · exact absurd h2.2 h
  have HBF : Hid (OkFr P Q → bad = false) := Lib.hid fun h => by
    rcases hbad with h2 | h2
    · exact absurd h h2.2
    · exact h2.1
  clear hbad
  go_cut [44] (fun v44 wx => v44 = .bool bad ∧ w3 = wx)
  case first =>
    have ca0 := HA3.out.c0
    have ca1 := HA3.out.c1
    by_cases c1 : Q < 1
    · have hb : bad = true := HBT.out (fun h => by have := h.1; omega)
      go_wp2
      go_meet
      exact ⟨by rw [hb], rfl⟩
    by_cases c2 : 1000000 < Q
    · have hb : bad = true := HBT.out (fun h => by have := h.2.1; omega)
      go_wp2
      go_meet
      exact ⟨by rw [hb], rfl⟩
    by_cases c3 : P < 0
    · have hb : bad = true := HBT.out (fun h => by have := h.2.2.1; omega)
      go_wp2
      go_meet
      exact ⟨by rw [hb], rfl⟩
    by_cases c4 : 1000000 < P
    · have hb : bad = true := HBT.out (fun h => by have := h.2.2.2; omega)
      go_wp2
      go_meet
      exact ⟨by rw [hb], rfl⟩
    have hb : bad = false := HBF.out ⟨by omega, by omega, by omega, by omega⟩
    go_wp2
    go_meet
    exact ⟨by rw [hb], rfl⟩
  case rest =>
    obtain ⟨rfl, rfl⟩ := hcut
    go_upto_if 44 with fail
    go_cut [9] (fun v9 wx => Ex w3 wx)
    case first =>
      rcases HOF.out with ⟨h1, h2, h3⟩ | ⟨h1, h2, h3, h4⟩
      · have hb : bad = true := HBT.out h1
        subst h2 h3 hb
        go_wp2
        go_meet
        exact Ex.refl _
      · have hb : bad = false := HBF.out h1
        have HOK := Lib.hid h1
        have HM := Lib.hid h4
        have HN := Lib.hid h3
        obtain ⟨q1, q2, p1, p2⟩ := h1
        subst h2 hb
        have ca0 := HA3.out.c0
        have ca1 := HA3.out.c1
        have HLEN : Hid ((cf P Q).length ≤ 1000000) := Lib.hid (by rw [← h3]; exact hmn)
        have HEQ : Hid (∀ (w : World) (a b : Option Addr) (ca cb : Nat), Reads w .i64 a (cf P Q) → Reads w .i64 b (cf P Q) → Calls Try.prog 11 #[.slice a mn ca, .slice b mn cb] w (Says (.bool true) w)) := Lib.hid fun w a b ca cb ha hb => by
          rw [h3]
          exact ints_equal (cf P Q) (cf P Q) a b ca cb w (by unfold maxLen; omega) (by unfold maxLen; omega) ha hb true (by simp)
        clear h3 h4
        go_wp2
        go_region
        go_wp2
        go_loopg [9, 10, 11] Q.toNat (fun k v9 v10 v11 wr => ∃ (p q : Int) (xs : List Int), 0 ≤ p ∧ p ≤ 1000000 ∧ 0 ≤ q ∧ q ≤ 1000000 ∧ v10 = .int .i64 p ∧ v11 = .int .i64 q ∧ Hid (cf P Q = xs ++ cf p q) ∧ Hid (Row 3 .i64 wr w3.heap.size v9 xs) ∧ Hid (k = q.toNat) ∧ Ex w3 wr)
        case atStart => exact ⟨P, Q, [], by omega, by omega, by omega, by omega, rfl, rfl, Lib.hid rfl, Lib.hid (Row.nil _ _ _ _), Lib.hid rfl, (Ex.refl _).drewN _⟩
        case round =>
          obtain ⟨p, q, xs, p0, p1, q0, q1, rfl, rfl, hC, hR, hk, hw⟩ := hrel
          by_cases hq : q = 0
          · subst hq
            have hxs : cf P Q = xs := by rw [hC.out, cf_none (by omega), List.append_nil]
            obtain ⟨a2, c2, rfl, _, hr2, _⟩ := hR.out.reads
            rw [← hxs, ← HN.out]
            rw [← hxs] at hr2
            have HR2 := Lib.hid hr2
            clear hr2 hxs
            go_wp2_with (
              (go_at_call 11; (with_reducible refine (HEQ.out _ _ _ _ _ (HM.out.ex hw) HR2.out).mono ?_); rintro e w5 ⟨rfl, hw5⟩))
            go_meet
            exact hw.trans hw5
          · have m1 := Int.emod_nonneg p hq
            have m2 := Int.emod_lt_of_pos p (b := q) (by omega)
            have d1 := Int.ediv_nonneg (a := p) (b := q) (by omega) (by omega)
            have d2 := Int.ediv_le_self (a := p) q (by omega)
            have d3 := Int.mul_ediv_add_emod p q
            have d4 : (p - p % q) / q = p / q := by
              rw [show p - p % q = q * (p / q) by omega, Int.mul_ediv_cancel_left _ hq]
            have d6 : p % q ≤ p := by
              have : 0 ≤ q * (p / q) := Int.mul_nonneg q0 d1
              omega
            have d5 : (p - p % q).tdiv q = p / q := by rw [Int.tdiv_eq_ediv_of_nonneg (by omega), d4]
            have HS : Hid (cf P Q = (xs ++ [p / q]) ++ cf q (p % q)) := Lib.hid (by rw [hC.out, cf_step (by omega)]; simp)
            have HL2 : Hid (xs.length + 1 ≤ 1000000) := Lib.hid (by
              have := HLEN.out
              rw [HS.out] at this
              simp only [List.length_append, List.length_singleton] at this
              omega)
            have HR1 := Lib.hid (hR.out.ex ((Ex.refl wr).alloc (.cells #[.int .i64 (p / q)] 3)))
            have HX5 := Lib.hid (hw.alloc (.cells #[.int .i64 (p / q)] 3))
            have c1 := cell_one wr (.int .i64 (p / q)) 3
            clear hR d3
            go_wp2_with (
              (at_builtin; refine wpList_append_int rfl _ _ 24 rfl w3.heap.size 3 .i64 8 Try.underlying24 info_int _ xs rfl HR1.out (p / q) wr.heap.size rfl c1 (by have := HL2.out; unfold maxLen; omega) (by have := HL2.out; omega) HX5.out.size ?_; intro v6 w6 hown6 hgrow6 _
               have HX6 := Lib.hid (HR1.out.grown HX5.out hgrow6)
               have HR6 := Lib.hid hown6
               clear hgrow6 c1 hown6))
            go_region
            go_wp2
            go_roundg (p % q).toNat
            case measure => have := hk.out; omega
            case rel => exact ⟨q, p % q, _, q0, q1, m1, by omega, rfl, rfl, HS, Lib.hid (HR6.out.ex ((Ex.refl _).drewN _)), Lib.hid rfl, HX6.out.drewN _⟩
    case rest =>
      rename World => w4
      have HY4 := Lib.hid (HY3.out.ex hcut)
      have HRD4 := Lib.hid (HRD3.out.ex hcut)
      have HX4 := Lib.hid (HX3.out.trans hcut)
      have cy0 := HY4.out.c0
      have cy1 := HY4.out.c1
      have hy4 := HY4.out.lt
      by_cases hl0 : l = []
      · subst hl0
        have hr : r = 4 := by
          rcases HC.out with h | h | h
          · exact h.2
          · exact absurd rfl h.1
          · exact absurd (fun i hi => by simp at hi) h.1
        have hf : f = 4 ∧ y1 = 0 ∧ y2 = 0 := by
          rcases HR.out with h | h | h
          · exact ⟨by omega, h.2.2⟩
          · omega
          · omega
        obtain ⟨rfl, rfl, rfl⟩ := hf
        clear hr
        go_wp2
        go_loopg [12, 85] 0 (fun k v12 v85 wr => v12 = .int .i64 4 ∧ v85 = .int .i64 0 ∧ w4 = wr)
        case atStart => exact ⟨rfl, rfl, rfl⟩
        case round =>
          obtain ⟨rfl, rfl, rfl⟩ := hrel
          go_wp2
          go_loopg [12, 16] 0 (fun k v12 v16 wr => v12 = .int .i64 4 ∧ v16 = .int .i64 (-1) ∧ Hid (Two 23 wr w2.heap.size 0 0) ∧ Ex w wr)
          case atStart => exact ⟨rfl, rfl, Lib.hid (HY4.out.ex ((Ex.refl _).alloc _)), HX4.out.alloc _⟩
          case round =>
            obtain ⟨rfl, rfl, HY5, hx5⟩ := hrel
            clear cy0 cy1
            have cy0 := HY5.out.c0
            have cy1 := HY5.out.c1
            go_wp2
            go_ret
            exact ⟨by first | rfl | (simp; done) | (simp; omega), hx5⟩
      · have hpos : 0 < l.length := List.length_pos_iff.mpr hl0
        have HNE := Lib.hid hl0
        rcases HRD4.out with h0 | ⟨b, off, rfl, hcell⟩
        · exact absurd h0 hl0
        have HCELL := Lib.hid hcell
        have hn0 : ((l.length : Int) == 0) = false := by simp; omega
        clear hcell hl0 cy0 cy1
        go_wp2
        go_loopg [12, 85] l.length (fun k v12 v85 wr => ∃ (i : Nat) (g : Int), i ≤ l.length ∧ v85 = .int .i64 i ∧ v12 = .int .i64 g ∧ Hid (k = l.length - i) ∧ Hid ((g = 0 ∧ ∀ j, j < i → okAt l j) ∨ (g = 1 ∧ ∃ j, j < i ∧ ¬ okAt l j)) ∧ Ex w4 wr)
        case atStart => exact ⟨0, 0, by omega, rfl, rfl, Lib.hid rfl, Lib.hid (.inl ⟨rfl, fun j hj => absurd hj (Nat.not_lt_zero _)⟩), Ex.refl _⟩
        case round =>
          obtain ⟨i, g, hi, rfl, rfl, hk, hG, hw⟩ := hrel
          by_cases hlt : i < l.length
          · have hcx := hw.cell (HCELL.out i hlt)
            obtain ⟨n, hnn⟩ : ∃ n, nth l i = n := ⟨_, rfl⟩
            rw [hnn] at hcx
            have HNN := Lib.hid hnn
            by_cases c1 : n < 0
            · have HB : Hid (¬ okAt l i) := Lib.hid fun h => by have := h.1; rw [HNN.out] at this; omega
              clear hnn
              go_wp2
              go_roundg (l.length - (i + 1))
              case measure => have := hk.out; omega
              case rel => exact ⟨i + 1, 1, by omega, by go_num, rfl, Lib.hid rfl, Lib.hid (.inr ⟨rfl, i, by omega, HB.out⟩), hw⟩
            by_cases c2 : 1000000 < n
            · have HB : Hid (¬ okAt l i) := Lib.hid fun h => by have := h.2.1; rw [HNN.out] at this; omega
              clear hnn
              go_wp2
              go_roundg (l.length - (i + 1))
              case measure => have := hk.out; omega
              case rel => exact ⟨i + 1, 1, by omega, by go_num, rfl, Lib.hid rfl, Lib.hid (.inr ⟨rfl, i, by omega, HB.out⟩), hw⟩
            by_cases c3 : n = 0
            · subst c3
              by_cases c4 : 0 < i
              · have HB : Hid (¬ okAt l i) := Lib.hid fun h => by have := h.2.2 c4; rw [HNN.out] at this; omega
                clear hnn c1 c2
                go_wp2
                go_roundg (l.length - (i + 1))
                case measure => have := hk.out; omega
                case rel => exact ⟨i + 1, 1, by omega, by go_num, rfl, Lib.hid rfl, Lib.hid (.inr ⟨rfl, i, by omega, HB.out⟩), hw⟩
              · have HB : Hid (okAt l i) := Lib.hid ⟨by rw [hnn]; omega, by rw [hnn]; omega, fun h => absurd h c4⟩
                obtain rfl : i = 0 := by omega
                rw [Nat.add_zero] at hcx
                clear hnn c1 c2 c4
                go_wp2
                go_roundg (l.length - (0 + 1))
                case measure => have := hk.out; omega
                case rel => exact ⟨0 + 1, g, by omega, by go_num, rfl, Lib.hid rfl, Lib.hid (by
                  rcases hG.out with ⟨h1, h2⟩ | ⟨h1, j, h2, h3⟩
                  · exact .inl ⟨h1, fun j hj => by
                      rcases Nat.lt_succ_iff_lt_or_eq.mp hj with h | h
                      · exact h2 j h
                      · rw [h]; exact HB.out⟩
                  · exact .inr ⟨h1, j, by omega, h3⟩), hw⟩
            · have HB : Hid (okAt l i) := Lib.hid ⟨by rw [hnn]; omega, by rw [hnn]; omega, fun h => by rw [hnn]; omega⟩
              clear hnn
              by_cases c4 : 0 < i
              · have c5 : 0 < (i : Int) := by omega
                go_wp2
                go_roundg (l.length - (i + 1))
                case measure => have := hk.out; omega
                case rel => exact ⟨i + 1, g, by omega, by go_num, rfl, Lib.hid rfl, Lib.hid (by
                  rcases hG.out with ⟨h1, h2⟩ | ⟨h1, j, h2, h3⟩
                  · exact .inl ⟨h1, fun j hj => by
                      rcases Nat.lt_succ_iff_lt_or_eq.mp hj with h | h
                      · exact h2 j h
                      · rw [h]; exact HB.out⟩
                  · exact .inr ⟨h1, j, by omega, h3⟩), hw⟩
              · have c5 : ¬ 0 < (i : Int) := by omega
                go_wp2
                go_roundg (l.length - (i + 1))
                case measure => have := hk.out; omega
                case rel => exact ⟨i + 1, g, by omega, by go_num, rfl, Lib.hid rfl, Lib.hid (by
                  rcases hG.out with ⟨h1, h2⟩ | ⟨h1, j, h2, h3⟩
                  · exact .inl ⟨h1, fun j hj => by
                      rcases Nat.lt_succ_iff_lt_or_eq.mp hj with h | h
                      · exact h2 j h
                      · rw [h]; exact HB.out⟩
                  · exact .inr ⟨h1, j, by omega, h3⟩), hw⟩
          · obtain rfl : i = l.length := by omega
            rename World => w5
            have HY5 := Lib.hid (HY4.out.ex hw)
            have HX5 := Lib.hid (HX4.out.trans hw)
            have hy5 := HY5.out.lt
            rcases hG.out with ⟨rfl, hok⟩ | ⟨rfl, j, hj, hnok⟩
            · have hr : r = 0 := by
                rcases HC.out with h | h | h
                · exact absurd h.1 HNE.out
                · exact h.2.2
                · exact absurd hok h.1
              have HRR : Hid ((vr l = none ∧ f = 2 ∧ y1 = 0 ∧ y2 = 0) ∨ (vr l = some (y1, y2) ∧ f = 0)) := Lib.hid (by
                rcases HR.out with h | h | h
                · omega
                · exact .inl h.2
                · exact .inr h.2)
              have HOKT := Lib.hid hok
              clear hr hok hG
              have HNEW := Lib.hid (Two.new 23 w5 1 0)
              have e1 : w5.heap.size ≠ w2.heap.size := by omega
              have e2 : w2.heap.size ≠ w5.heap.size := by omega
              have HLE : Hid (w.heap.size ≤ w5.heap.size) := Lib.hid HX5.out.size
              clear hy5 hy4
              go_wp2
              go_loopg [12, 16] l.length (fun k v12 v16 wr => ∃ (i : Nat) (g x y : Int), i ≤ l.length ∧ v12 = .int .i64 g ∧ v16 = .int .i64 ((i : Int) - 1) ∧ Hid (k = i) ∧ Hid (Two 23 wr w5.heap.size x y) ∧ Hid (Ex w5 wr) ∧
                Hid ((g = 0 ∧ vr (l.drop i) = some (x, y) ∧ 0 ≤ x ∧ x ≤ 1000000 ∧ 0 ≤ y ∧ y ≤ 1000000) ∨ (g = 2 ∧ vr l = none)))
              case atStart => exact ⟨l.length, 0, 1, 0, Nat.le_refl _, rfl, rfl, Lib.hid rfl, HNEW, Lib.hid ((Ex.refl _).alloc _), Lib.hid (.inl ⟨rfl, by simp [vr], by omega, by omega, by omega, by omega⟩)⟩
              case round =>
                obtain ⟨i, g, x, y, hi, rfl, rfl, hk, HZ, hx6, hD⟩ := hrel
                have HY6 := Lib.hid (HY5.out.ex hx6.out)
                have HX6 := Lib.hid (HX5.out.trans hx6.out)
                have cy0 := HY6.out.c0
                have cy1 := HY6.out.c1
                have cz0 := HZ.out.c0
                have cz1 := HZ.out.c1
                have czf0 := HZ.out.free 0
                have czf1 := HZ.out.free 1
                rcases hD.out with ⟨rfl, hv, x0, x1, z0, z1⟩ | ⟨rfl, hv⟩
                · by_cases hi0 : 0 < i
                  · obtain ⟨j, rfl⟩ : ∃ j, i = j + 1 := ⟨i - 1, by omega⟩
                    have HJ : Hid (((j + 1 : Nat) : Int) - 1 = (j : Int)) := Lib.hid (by omega)
                    rw [HJ.out]
                    have hlt : j < l.length := by omega
                    have hcx := (hw.trans hx6.out).cell (HCELL.out j hlt)
                    obtain ⟨o1, o2, _⟩ := HOKT.out j hlt
                    have HD := Lib.hid (vr_drop hlt hv)
                    have HGD : Hid (l.getD j 0 = nth l j) := Lib.hid rfl
                    rw [HGD.out] at HD
                    obtain ⟨t, ht⟩ : ∃ t, nth l j = t := ⟨_, rfl⟩
                    rw [ht] at hcx o1 o2 HD
                    have p0 : 0 ≤ t * x := Int.mul_nonneg o1 x0
                    have p1 : t * x ≤ 1000000000000 := by
                      have h1 : t * x ≤ 1000000 * x := Int.mul_le_mul_of_nonneg_right o2 x0
                      omega
                    have HZ2 := Lib.hid (HZ.out.set (u := t * x + y) (v := x))
                    have HX7 := Lib.hid (hx6.out.set2 (c := w5.heap.size) (Nat.le_refl _) (.int .i64 (t * x + y)) (.int .i64 x))
                    clear ht hv hD
                    by_cases hbig : 1000000 < t * x + y
                    · have HRN : Hid (vr l = none) := Lib.hid (HD.out.1 hbig)
                      go_wp2
                      go_region
                      go_wp2
                      all_goals go_roundg j
                      all_goals first
                        | (exact ⟨j, 2, t * x + y, x, by omega, rfl, rfl, Lib.hid rfl, Lib.hid (HZ2.out.ex (Ex.refl _).drew), Lib.hid HX7.out.drew, Lib.hid (.inr ⟨rfl, HRN.out⟩)⟩)
                        | (have := hk.out; omega)
                    · have HRS := Lib.hid (HD.out.2 (by omega))
                      go_wp2
                      go_region
                      go_wp2
                      all_goals go_roundg j
                      all_goals first
                        | (exact ⟨j, 0, t * x + y, x, by omega, rfl, rfl, Lib.hid rfl, Lib.hid (HZ2.out.ex (Ex.refl _).drew), Lib.hid HX7.out.drew, Lib.hid (.inl ⟨rfl, HRS.out, by omega, by omega, x0, x1⟩)⟩)
                        | (have := hk.out; omega)
                  · obtain rfl : i = 0 := by omega
                    rw [List.drop_zero] at hv
                    have hf : y1 = x ∧ y2 = y ∧ f = 0 := by
                      rcases HRR.out with h | h
                      · rw [hv] at h; simp at h
                      · rw [hv] at h
                        simp only [Option.some.injEq, Prod.mk.injEq] at h
                        exact ⟨h.1.1.symm, h.1.2.symm, h.2⟩
                    obtain ⟨rfl, rfl, rfl⟩ := hf
                    clear hv hD
                    go_wp2
                    go_ret
                    exact ⟨by first | rfl | (simp; done) | (simp; omega), HX6.out⟩
                · have hf : f = 2 ∧ y1 = 0 ∧ y2 = 0 := by
                    rcases HRR.out with h | h
                    · exact h.2
                    · rw [hv] at h; simp at h
                  obtain ⟨rfl, rfl, rfl⟩ := hf
                  clear hv hD
                  by_cases hi0 : 0 < i
                  · have i1 : (0 : Int) ≤ (i : Int) - 1 := by omega
                    go_wp2
                    go_ret
                    exact ⟨by first | rfl | (simp; done) | (simp; omega), HX6.out⟩
                  · have i1 : ¬ (0 : Int) ≤ (i : Int) - 1 := by omega
                    go_wp2
                    go_ret
                    exact ⟨by first | rfl | (simp; done) | (simp; omega), HX6.out⟩
            · have hr : r = 1 := by
                rcases HC.out with h | h | h
                · exact absurd h.1 HNE.out
                · exact absurd (h.2.1 j hj) hnok
                · exact h.2
              have hf : f = 1 ∧ y1 = 0 ∧ y2 = 0 := by
                rcases HR.out with h | h | h
                · exact ⟨by omega, h.2.2⟩
                · omega
                · omega
              obtain ⟨rfl, rfl, rfl⟩ := hf
              clear hr hnok hj hG
              go_wp2
              go_loopg [12, 16] 0 (fun k v12 v16 wr => v12 = .int .i64 1 ∧ v16 = .int .i64 ((l.length : Int) - 1) ∧ Hid (Two 23 wr w2.heap.size 0 0) ∧ Ex w wr)
              case atStart => exact ⟨rfl, rfl, Lib.hid (HY5.out.ex ((Ex.refl _).alloc _)), HX5.out.alloc _⟩
              case round =>
                obtain ⟨rfl, rfl, HY6, hx6⟩ := hrel
                have cy0 := HY6.out.c0
                have cy1 := HY6.out.c1
                go_wp2
                go_ret
                exact ⟨by first | rfl | (simp; done) | (simp; omega), hx6⟩

end Go.Proofs.Ytbomiohgdlcmdaa
