/-
  The walks over package frac, first: whether a fraction is allowed; its continued fraction.
-/
import Derived.Test.YthlnbomapfjphaaGro
import Derived.Test.YthlnbomapfjphaaFrVal
import Derived.Test.YthlnbomapfjphaaFrTwo
namespace Go.Proofs.Ythlnbomapfjphaa
open Go.RowKit
open Eu Fr

/-- A fraction that is allowed. -/
def OkFr (p q : Int) : Prop := 1 ≤ q ∧ q ≤ 1000000 ∧ 0 ≤ p ∧ p ≤ 1000000

set_option maxHeartbeats 400000 in
theorem frIn_yes (p q : Int) (w : World) (h : OkFr p q) : Calls Try.prog 89 #[.agg #[.int .i64 p, .int .i64 q]] w (Says (.bool true) w) := by
  obtain ⟨h1, h2, h3, h4⟩ := h
  go_enter Try.func89, Try.ntmps89
  go_wp2
  go_ret
  exact ⟨rfl, (Ex.refl w).alloc _⟩

set_option maxHeartbeats 400000 in
theorem frIn_no (p q : Int) (w : World) (h : ¬ OkFr p q) : Calls Try.prog 89 #[.agg #[.int .i64 p, .int .i64 q]] w (Says (.bool false) w) := by
  by_cases h1 : q < 1
  · clear h
    go_enter Try.func89, Try.ntmps89
    go_wp2
    go_ret
    exact ⟨rfl, (Ex.refl w).alloc _⟩
  by_cases h2 : 1000000 < q
  · clear h
    go_enter Try.func89, Try.ntmps89
    go_wp2
    go_ret
    exact ⟨rfl, (Ex.refl w).alloc _⟩
  by_cases h3 : p < 0
  · clear h
    go_enter Try.func89, Try.ntmps89
    go_wp2
    go_ret
    exact ⟨rfl, (Ex.refl w).alloc _⟩
  have h4 : 1000000 < p := by unfold OkFr at h; omega
  clear h
  go_enter Try.func89, Try.ntmps89
  go_wp2
  go_ret
  exact ⟨by first | rfl | (simp; done) | (simp; omega), (Ex.refl w).alloc _⟩

theorem cell_one (w : World) (u : Value) (T : TypeId) : (w.alloc (.cells #[u] T)).cell? ⟨w.heap.size, 0, none⟩ = some u := by
  show (match (w.heap.push _)[w.heap.size]? with | some (.cells c _ _) => _ | _ => none) = _
  rw [Array.getElem?_push_size]
  rfl

set_option maxHeartbeats 400000 in
theorem frOf_no (p q : Int) (w : World) (h : ¬ OkFr p q) : Calls Try.prog 45 #[.agg #[.int .i64 p, .int .i64 q]] w (Says (.tuple #[.slice none 0 0, .int .i64 1]) w) := by
  have H := Lib.hid h
  clear h
  go_enter Try.func45, Try.ntmps45
  go_wp2_with (
    (go_at_call 89; (with_reducible refine (frIn_no _ _ _ H.out).mono ?_); rintro e w2 ⟨rfl, hw2⟩))
  go_ret2
  exact ⟨rfl, ((Ex.refl w).alloc _).trans hw2⟩

/-- What Of hands back where the fraction is allowed. -/
def OfSays (p q : Int) (w : World) (e : Ending) (w2 : World) : Prop := ∃ v, e = .returned (.tuple #[v, .int .i64 0]) ∧ Hid (Row 3 .i64 w2 w.heap.size v (cf p q)) ∧ Ex w w2

set_option maxHeartbeats 1000000 in
theorem frOf_ok (P Q : Int) (w : World) (h : OkFr P Q) : Calls Try.prog 45 #[.agg #[.int .i64 P, .int .i64 Q]] w (OfSays P Q w) := by
  have H := Lib.hid h
  obtain ⟨h1, h2, h3, h4⟩ := h
  have HL : Hid ((cf P Q).length ≤ 1000000) := Lib.hid (by have := cf_len Q.toNat P Q rfl; omega)
  have HX0 := Lib.hid ((Ex.refl w).alloc (.cells #[.int .i64 P, .int .i64 Q] 75))
  have HT := Lib.hid (Two.new 75 w P Q)
  go_enter Try.func45, Try.ntmps45
  go_wp2_with (
    (go_at_call 89; (with_reducible refine (frIn_yes _ _ _ H.out).mono ?_); rintro e w2 ⟨rfl, hw2⟩; have q0 := hw2.cell HT.out.c0; have q1 := hw2.cell HT.out.c1))
  go_region
  go_wp2
  go_loopg [4, 5, 6] Q.toNat (fun k v4 v5 v6 wr => ∃ (p q : Int) (xs : List Int), 0 ≤ p ∧ p ≤ 1000000 ∧ 0 ≤ q ∧ q ≤ 1000000 ∧ v5 = .int .i64 p ∧ v6 = .int .i64 q ∧ Hid (cf P Q = xs ++ cf p q) ∧ Hid (Row 3 .i64 wr w.heap.size v4 xs) ∧ Hid (k = q.toNat) ∧ Ex w wr)
  case atStart => exact ⟨P, Q, [], by omega, by omega, by omega, by omega, rfl, rfl, Lib.hid rfl, Lib.hid (Row.nil _ _ _ _), Lib.hid rfl, HX0.out.trans (by first | exact hw2.drewN _ | exact hw2)⟩
  case round =>
    obtain ⟨p, q, xs, p0, p1, q0, q1, rfl, rfl, hC, hR, hk, hw⟩ := hrel
    by_cases hq : q = 0
    · subst hq
      go_wp2
      go_ret2
      refine ⟨_, rfl, Lib.hid ?_, hw⟩
      rw [hC.out, cf_none (by omega), List.append_nil]
      exact hR.out
    · have m1 := Int.emod_nonneg p hq
      have m2 := Int.emod_lt_of_pos p (b := q) (by omega)
      have d1 := Int.ediv_nonneg (a := p) (b := q) (by omega) (by omega)
      have d2 := Int.ediv_le_self (a := p) q (by omega)
      have HS : Hid (cf P Q = (xs ++ [p / q]) ++ cf q (p % q)) := Lib.hid (by rw [hC.out, cf_step (by omega)]; simp)
      have HL2 : Hid (xs.length + 1 ≤ 1000000) := Lib.hid (by
        have := HL.out
        rw [HS.out] at this
        simp only [List.length_append, List.length_singleton] at this
        omega)
      have HR1 := Lib.hid (hR.out.ex ((Ex.refl wr).alloc (.cells #[.int .i64 (p / q)] 3)))
      have HX1 := Lib.hid (hw.alloc (.cells #[.int .i64 (p / q)] 3))
      have c1 := cell_one wr (.int .i64 (p / q)) 3
      have HM : Hid (wrap64 (p / q) = p / q) := Lib.hid (IntWalk.wrap64_in _ (by omega))
      clear hR
      go_wp2_with (
        (at_builtin; refine wpList_append_int rfl _ _ 61 rfl w.heap.size 3 .i64 8 Try.underlying61 info_int _ xs rfl HR1.out (p / q) wr.heap.size rfl c1 (by have := HL2.out; unfold maxLen; omega) (by have := HL2.out; omega) HX1.out.size ?_; intro v3 w3 hown3 hgrow3 _
         have HX3 := Lib.hid (HR1.out.grown HX1.out hgrow3)
         have HR3 := Lib.hid hown3
         clear hgrow3 c1 hown3))
      go_region
      go_wp2
      go_roundg (p % q).toNat
      case measure => have := hk.out; omega
      case rel => exact ⟨q, p % q, _, q0, q1, m1, by omega, rfl, rfl, HS, Lib.hid (HR3.out.ex ((Ex.refl _).drewN _)), Lib.hid rfl, HX3.out.drewN _⟩

end Go.Proofs.Ythlnbomapfjphaa
